/- The laws' helpers on lists of numbers, and what their walks carry from call to call. -/
import Derived.Test.YtfdlhdgmbjdhbaaLawsD
import Derived.Test.YtfdlhdgmbjdhbaaInts
namespace Go.Proofs.Ytfdlhdgmbjdhbaa
open Go.RowKit

theorem FreshI.drew {B : Nat} {w : World} {q : Option Addr} {n cap : Nat} {es : List Int} (h : FreshI B w q n cap es) : FreshI B w.drew q n cap es := h

theorem sep_own {u v : Value} {a b c d : Nat} (hv : ∀ g, v.ownBlock = some g → a ≤ g ∧ g < b) (hu : ∀ g, u.ownBlock = some g → c ≤ g ∧ g < d) (h : b ≤ c ∨ d ≤ a) : u.ownBlock = none ∨ u.ownBlock ≠ v.ownBlock := by
  cases hq : u.ownBlock with
  | none => exact .inl rfl
  | some g => exact .inr (fun e => by have := hu g hq; have := hv g e.symm; omega)
theorem sep_box {v : Value} {a b x : Nat} (hv : ∀ g, v.ownBlock = some g → a ≤ g ∧ g < b) (h : x < a ∨ b ≤ x) : some x ≠ v.ownBlock := fun e => by
  have := hv x e.symm
  omega

theorem box_two {w : World} {X : Nat} {u v : Value} {s : Int} {q : Option Addr} {n cap : Nat} (h0 : w.cell? ⟨X, 0, none⟩ = some u) (h1 : w.cell? ⟨X, 1, none⟩ = some v) :
    Box ((w.setCell ⟨X, 0, none⟩ (.int .i64 s)).setCell ⟨X, 1, none⟩ (.slice q n cap)) X s q n cap := by
  refine ⟨?_, ?_⟩
  · rw [World.cell?_setCell_other _ _ _ _ (by simp)]
    exact World.cell?_setCell_same' _ _ _ (by rw [h0]; rfl)
  · refine World.cell?_setCell_same' _ _ _ ?_
    rw [World.cell?_setCell_other _ _ _ _ (by simp), h1]
    rfl

theorem eqGraph_self (t : Int) (p q : Option Addr) (n c d : Nat) (xs : List (Int × Int)) (w : World) (hx : xs.length = n) (hn : n ≤ 9223372036854775807) (hp : SeesE w p xs) (hq : SeesE w q xs) :
    Calls Try.prog 10 #[.agg #[.int .i64 t, .slice p n c], .agg #[.int .i64 t, .slice q n d]] w fun e w' => e = .returned (.bool true) ∧ Below w.heap.size w w' :=
  (eqGraph_any t t p q n n c d xs xs w hx hx hn hn hp hq).mono fun e w' ⟨he, hb⟩ => ⟨by rw [he]; simp, hb⟩

set_option maxRecDepth 100000 in
set_option maxHeartbeats 1000000 in
theorem toInts_any (b off c n : Nat) (es : List Int) (w : World) (hn : es.length = n) (hlen : n ≤ 1048576) (hr : ReadsI w b off es) :
    Calls Try.prog 21 #[.slice (some ⟨b, off, none⟩) n c] w fun e w' => e = .returned (.slice (some ⟨w.heap.size, 0, none⟩) n n) ∧
      OwnI w' w.heap.size n es ∧ Below w.heap.size w w' := by
  obtain ⟨i0, hi, hz0, hz1, hz2⟩ := info_parts infoInt
  have Hn := hid hn
  have Hr := hid hr
  have hl2 : n ≤ 9223372036854775807 := by omega
  have Hl := hid hlen
  clear hn hr hlen
  go_enter Try.func21, Try.ntmps21
  go_wp2_with (at_make; refine wpList_make_full _ rfl _ _ 41 rfl w.heap.size 2 i0 (.int .i64 0) 1 Try.underlying41 hi hz0 hz1 _ _ _ _ n rfl rfl rfl rfl (by have := Hl.out; rw [hz2]; omega) (by unfold maxLen; omega) (Nat.le_refl _) ?_; intro w1 hown hgrow)
  have Ho := hid (OwnI.made hown)
  have Hb := hid ((Below.refl w.heap.size w).grown hgrow (Nat.le_refl _) (fun k e => by cases e))
  clear hown hgrow hi hz0 hz1 hz2
  go_loopw [4] (fun i wr => ∃ k : Nat, k ≤ n ∧ i = .int .i64 k ∧ OwnI wr w.heap.size n (es.take k ++ List.replicate (n - k) 0) ∧ Below w.heap.size w wr) (fun i _ => n - (intOf i).toNat)
  case atStart => exact ⟨0, Nat.zero_le _, rfl, by simpa using Ho.out, Hb.out⟩
  case round =>
    obtain ⟨k, hk, rfl, hO, hB⟩ := hrel
    clear Ho Hb
    by_cases hlt : k < n
    · have hc1 := Hr.out.on hB k (by have := Hn.out; omega)
      have HO := hid hO
      have f1 := HO.out.free k
      have g1 := HO.out.reads k (by simp; have := Hn.out; omega)
      rw [Nat.zero_add] at g1
      have hgl := HO.out.lt
      clear hO
      go_wp2
      go_roundw
      case rel =>
        refine ⟨k + 1, by omega, by go_num, ?_, ?_⟩
        · rw [← fill_step Hn.out hlt (eI es k) (int_at (by have := Hn.out; omega))]
          exact HO.out.set (by simp; have := Hn.out; omega) _
        · exact hB.setCell (Nat.le_refl _) _
      case measure => simp [intOf]; omega
    · go_wp2
      go_ret
      obtain rfl : k = n := by omega
      refine ⟨rfl, ?_, hB⟩
      have h := hO
      rw [Nat.sub_self, List.replicate_zero, List.append_nil, List.take_of_length_le (by have := Hn.out; omega)] at h
      exact h

set_option maxRecDepth 100000 in
set_option maxHeartbeats 1000000 in
theorem toInts_nil (p : Option Addr) (c : Nat) (w : World) :
    Calls Try.prog 21 #[.slice p 0 c] w fun e w' => e = .returned (.slice (some ⟨w.heap.size, 0, none⟩) 0 0) ∧
      OwnI w' w.heap.size 0 [] ∧ Below w.heap.size w w' := by
  obtain ⟨i0, hi, hz0, hz1, hz2⟩ := info_parts infoInt
  go_enter Try.func21, Try.ntmps21
  go_wp2_with (at_make; refine wpList_make_full _ rfl _ _ 41 rfl w.heap.size 2 i0 (.int .i64 0) 1 Try.underlying41 hi hz0 hz1 _ _ _ _ 0 rfl rfl rfl rfl (by rw [hz2]; omega) (by unfold maxLen; omega) (Nat.le_refl _) ?_; intro w1 hown hgrow)
  have Ho := hid (OwnI.made hown)
  have Hb := hid ((Below.refl w.heap.size w).grown hgrow (Nat.le_refl _) (fun k e => by cases e))
  clear hown hgrow hi hz0 hz1 hz2
  go_rounds 1
  go_ret
  exact ⟨rfl, Ho.out, Hb.out⟩

theorem toInts_sees (p : Option Addr) (c n : Nat) (es : List Int) (w : World) (hn : es.length = n) (hlen : n ≤ 1048576) (hr : SeesI w p es) :
    Calls Try.prog 21 #[.slice p n c] w fun e w' => ∃ g, e = .returned (.slice (some ⟨g, 0, none⟩) n n) ∧ w.heap.size ≤ g ∧ OwnI w' g n es ∧ Below w.heap.size w w' := by
  rcases hr with rfl | ⟨b, off, rfl, hr⟩
  · obtain rfl : n = 0 := by simpa using hn.symm
    exact (toInts_nil p c w).mono fun e w' ⟨h1, h2, h3⟩ => ⟨_, h1, Nat.le_refl _, h2, h3⟩
  · exact (toInts_any b off c n es w hn hlen hr).mono fun e w' ⟨h1, h2, h3⟩ => ⟨_, h1, Nat.le_refl _, h2, h3⟩

set_option maxRecDepth 100000 in
set_option maxHeartbeats 1000000 in
theorem eqInts_self (p q : Option Addr) (n c d : Nat) (xs : List Int) (w : World) (hx : xs.length = n) (hn : n ≤ 9223372036854775807) (hp : SeesI w p xs) (hq : SeesI w q xs) :
    Calls Try.prog 23 #[.slice p n c, .slice q n d] w fun e w' => e = .returned (.bool true) ∧ Below w.heap.size w w' := by
  have Hx := hid hx
  have Hp := hid hp
  have Hq := hid hq
  clear hx hp hq
  go_enter Try.func23, Try.ntmps23
  go_wp2
  go_loopw [5] (fun i wr => ∃ k : Nat, k ≤ n ∧ i = .int .i64 k ∧ Below w.heap.size w wr) (fun i _ => n - (intOf i).toNat)
  case atStart => exact ⟨0, Nat.zero_le _, rfl, Below.refl _ _⟩
  case round =>
    obtain ⟨k, hk, rfl, hB⟩ := hrel
    by_cases hlt : k < n
    · obtain ⟨b, off, rfl, hr⟩ : ∃ b off, p = some ⟨b, off, none⟩ ∧ ReadsI w b off xs := by
        rcases Hp.out with h | h
        · have := Hx.out; rw [h] at this; simp at this; omega
        · exact h
      obtain ⟨b', off', rfl, hs⟩ : ∃ b off, q = some ⟨b, off, none⟩ ∧ ReadsI w b off xs := by
        rcases Hq.out with h | h
        · have := Hx.out; rw [h] at this; simp at this; omega
        · exact h
      have h1 := hr.on hB k (by have := Hx.out; omega)
      have h2 := hs.on hB k (by have := Hx.out; omega)
      have h3 : (eI xs k != eI xs k) = false := by simp
      clear hr hs
      go_wp2
      go_quiet (fail)
      go_wp2
      go_roundw
      case rel => exact ⟨k + 1, by omega, by go_num, by simp only [bdn]; exact hB⟩
      case measure => simp [intOf]; omega
    · go_wp2
      go_ret
      exact ⟨rfl, hB⟩

set_option maxRecDepth 100000 in
set_option maxHeartbeats 2000000 in
theorem markInts_own (g cap n : Nat) (k0 : Int) (es : List Int) (w : World) (hn : es.length = n) (hlen : n ≤ 1048576) (hk0 : 0 ≤ k0) (hk1 : k0 ≤ 67108864) (ho : OwnI w g cap es) :
    Calls Try.prog 51 #[.slice (some ⟨g, 0, none⟩) n cap, .int .i64 k0] w fun e w' => e = .returned (.int .i64 (k0 + n)) ∧ OwnI w' g cap (marksI k0 n) ∧ w.grownBy w' (some g) := by
  have Hn := hid hn
  have Ho := hid ho
  have hl2 : n ≤ 9223372036854775807 := by omega
  have Hl := hid hlen
  have Hk := hid hk1
  clear hn ho hlen hk1
  go_enter Try.func51, Try.ntmps51
  go_wp2
  go_loopw [1, 5] (fun k i wr => ∃ j : Nat, j ≤ n ∧ i = .int .i64 j ∧ k = .int .i64 (k0 + j) ∧ Hid (OwnI wr g cap (marksI k0 j ++ es.drop j)) ∧ Hid (w.grownBy wr (some g))) (fun _ i _ => n - (intOf i).toNat)
  case atStart => exact ⟨0, Nat.zero_le _, rfl, by simp, hid (by simpa [marksI] using Ho.out), hid (World.grownBy.refl w _)⟩
  case round =>
    obtain ⟨j, hj, rfl, rfl, hO, hG⟩ := hrel
    by_cases hlt : j < n
    · have f1 := hO.out.free j
      have g1 := hO.out.reads j (by simp [marksI_length]; have := Hn.out; omega)
      rw [Nat.zero_add] at g1
      obtain ⟨q, hq⟩ : ∃ q, k0 + (j : Int) = q := ⟨_, rfl⟩
      have q1 : 0 ≤ q := by omega
      have q2 : q ≤ 9223372036854775000 := by have := Hk.out; have := Hl.out; omega
      rw [hq]
      have HQ := hid hq
      clear hq
      go_wp2
      go_roundw
      case rel =>
        refine ⟨j + 1, by omega, by go_num, ?_, hid ?_, hid (gset hG.out _ _)⟩
        · congr 1
          have := HQ.out
          omega
        · rw [← marksI_step Hn.out hlt, HQ.out]
          exact hO.out.set (by simp [marksI_length]; have := Hn.out; omega) _
      case measure => simp [intOf]; omega
    · obtain rfl : j = n := by omega
      go_wp2
      go_ret
      refine ⟨rfl, ?_, hG.out⟩
      have h := hO.out
      rw [List.drop_of_length_le (by have := Hn.out; omega), List.append_nil] at h
      exact h

set_option maxRecDepth 100000 in
set_option maxHeartbeats 1000000 in
theorem markInts_nil (p : Option Addr) (c : Nat) (k0 : Int) (w : World) :
    Calls Try.prog 51 #[.slice p 0 c, .int .i64 k0] w fun e w' => e = .returned (.int .i64 k0) ∧ w = w' := by
  go_enter Try.func51, Try.ntmps51
  go_wp2
  go_rounds 1
  go_ret
  exact ⟨rfl, rfl⟩

theorem markInts_k {B : Nat} (n cap : Nat) (q : Option Addr) (k0 : Int) (es : List Int) (w : World) (hlen : n ≤ 1048576) (hk0 : 0 ≤ k0) (hk1 : k0 ≤ 67108864) (h : FreshI B w q n cap es) :
    Calls Try.prog 51 #[.slice q n cap, .int .i64 k0] w fun e w' => e = .returned (.int .i64 (k0 + n)) ∧ FreshI B w' q n cap (marksI k0 n) ∧ w.grownBy w' (Value.slice q n cap).ownBlock := by
  rcases h.form with ⟨rfl, rfl, rfl, rfl⟩ | ⟨g, rfl, hb, ho⟩
  · refine (markInts_nil none 0 k0 w).mono fun e w' ⟨he, hw⟩ => ?_
    subst hw
    exact ⟨by rw [he]; simp, FreshI.nil _ _, World.grownBy.refl _ _⟩
  · exact (markInts_own g cap n k0 es w h.2 hlen hk0 hk1 ho).mono fun e w' ⟨he, ho', hg⟩ => ⟨he, FreshI.of_own ho' (marksI_length k0 n) hb, hg⟩

set_option maxRecDepth 100000 in
set_option maxHeartbeats 2000000 in
theorem heldInts_sees (n c : Nat) (p : Option Addr) (w : World) (hlen : n ≤ 1048576) (hr : SeesI w p (marksI 1 n)) :
    Calls Try.prog 52 #[.slice p n c, .int .i64 1] w fun e w' => e = .returned (.int .i64 (1 + n)) ∧ w = w' := by
  have Hr := hid hr
  have hl2 : n ≤ 9223372036854775807 := by omega
  have Hl := hid hlen
  clear hr hlen
  go_enter Try.func52, Try.ntmps52
  go_wp2
  go_loop [1, 5] (fun k i => ∃ j : Nat, j ≤ n ∧ i = .int .i64 j ∧ k = .int .i64 (1 + j)) (fun _ i => n - (intOf i).toNat)
  case atStart => exact ⟨0, Nat.zero_le _, rfl, by simp⟩
  case round =>
    obtain ⟨j, hj, rfl, rfl⟩ := hrel
    by_cases hlt : j < n
    · obtain ⟨b, off, rfl, hrd⟩ : ∃ b off, p = some ⟨b, off, none⟩ ∧ ReadsI w b off (marksI 1 n) := by
        rcases Hr.out with h | h
        · have := congrArg List.length h; rw [marksI_length] at this; simp at this; omega
        · exact h
      have g1 := hrd j (by rw [marksI_length]; exact hlt)
      rw [marksI_at hlt] at g1
      clear hrd
      obtain ⟨q, hq⟩ : ∃ q, 1 + (j : Int) = q := ⟨_, rfl⟩
      have q1 : 0 ≤ q := by omega
      have q2 : q ≤ 9223372036854775000 := by have := Hl.out; omega
      rw [hq] at g1 ⊢
      have HQ := hid hq
      have n1 : (q != q) = false := by simp
      clear hq
      go_wp2
      go_round
      case rel =>
        refine ⟨j + 1, by omega, by go_num, ?_⟩
        congr 1
        have := HQ.out
        omega
      case measure => simp [intOf]; omega
    · obtain rfl : j = n := by omega
      go_wp2
      go_ret
      exact ⟨rfl, rfl⟩

theorem markEdgeS_k {B : Nat} (n cap : Nat) (q : Option Addr) (k0 : Int) (es : List (Int × Int)) (w : World) (hlen : n ≤ 1048576) (hk0 : 0 ≤ k0) (hk1 : k0 ≤ 4194304) (h : FreshE B w q n cap es) :
    Calls Try.prog 41 #[.slice q n cap, .int .i64 k0] w fun e w' => e = .returned (.int .i64 (k0 + 2 * n)) ∧ FreshE B w' q n cap (marksE k0 n) ∧ w.grownBy w' (Value.slice q n cap).ownBlock := by
  rcases h.form with ⟨rfl, rfl, rfl, rfl⟩ | ⟨g, rfl, hb, ho⟩
  · refine (markEdgeS_nil none 0 k0 w).mono fun e w' ⟨he, hw⟩ => ?_
    subst hw
    exact ⟨by rw [he]; simp, FreshE.nil _ _, World.grownBy.refl _ _⟩
  · exact (markEdgeS_own g cap n k0 es w h.2 hlen hk0 hk1 ho).mono fun e w' ⟨he, ho', hg⟩ => ⟨he, FreshE.of_own ho' (marksE_length k0 n) hb, hg⟩

set_option maxRecDepth 100000 in
set_option maxHeartbeats 1000000 in
theorem markGraph_k {B : Nat} (n cap : Nat) (s : Int) (q : Option Addr) (k0 : Int) (es : List (Int × Int)) (w : World) (hlen : n ≤ 1048576) (hk0 : 0 ≤ k0) (hk1 : k0 ≤ 4194304) (h : FreshE B w q n cap es) :
    Calls Try.prog 11 #[.agg #[.int .i64 s, .slice q n cap], .int .i64 k0] w fun e w' => e = .returned (.int .i64 (k0 + 2 * n)) ∧ FreshE B w' q n cap (marksE k0 n) ∧ w.grownBy w' (Value.slice q n cap).ownBlock := by
  have Hh := hid h
  have Hl := hid hlen
  clear h hlen
  go_enter Try.func11, Try.ntmps11
  go_wp2_with (go_at_call 41; refine (markEdgeS_k n cap q k0 es _ Hl.out hk0 hk1 (Hh.out.on (on_alloc _ _))).mono ?_; rintro e w2 ⟨rfl, hf2, hg2⟩; have HF2 := hid hf2; have HG2 := hid hg2; clear hf2 hg2)
  go_ret
  refine ⟨rfl, HF2.out, ?_⟩
  have h1 := HG2.out
  exact ⟨h1.os, h1.tape, h1.output, by have := h1.size; simp at this; omega, fun k hk hne => (h1.block k (by simp; omega) hne).trans (Below.heap_alloc w _ k hk)⟩

end Go.Proofs.Ytfdlhdgmbjdhbaa
