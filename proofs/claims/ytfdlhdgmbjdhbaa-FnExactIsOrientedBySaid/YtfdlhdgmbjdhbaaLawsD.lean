/- Results that are graphs in memory of the call's own: what keeps them, the marks over them. -/
import Derived.Test.YtfdlhdgmbjdhbaaLawsB
import Derived.Test.YtfdlhdgmbjdhbaaRowsE

/- The laws' marks: numbers written over a result, and read again. -/
namespace Go.Proofs.Ytfdlhdgmbjdhbaa
open Go.RowKit

set_option maxRecDepth 100000 in
set_option maxHeartbeats 2000000 in
theorem markEdgeS_own (g cap n : Nat) (k0 : Int) (es : List (Int × Int)) (w : World) (hn : es.length = n) (hlen : n ≤ 1048576) (hk0 : 0 ≤ k0) (hk1 : k0 ≤ 4194304) (ho : OwnE w g cap es) :
    Calls Try.prog 41 #[.slice (some ⟨g, 0, none⟩) n cap, .int .i64 k0] w fun e w' => e = .returned (.int .i64 (k0 + 2 * n)) ∧ OwnE w' g cap (marksE k0 n) ∧ w.grownBy w' (some g) := by
  have Hn := hid hn
  have Ho := hid ho
  have hl2 : n ≤ 9223372036854775807 := by omega
  have Hl := hid hlen
  have Hk := hid hk1
  clear hn ho hlen hk1
  go_enter Try.func41, Try.ntmps41
  go_wp2
  go_loopw [1, 5] (fun k i wr => ∃ j : Nat, j ≤ n ∧ i = .int .i64 j ∧ k = .int .i64 (k0 + 2 * j) ∧ Hid (OwnE wr g cap (marksE k0 j ++ es.drop j)) ∧ Hid (w.grownBy wr (some g))) (fun _ i _ => n - (intOf i).toNat)
  case atStart => exact ⟨0, Nat.zero_le _, rfl, by simp, hid (by simpa [marksE] using Ho.out), hid (World.grownBy.refl w _)⟩
  case round =>
    obtain ⟨j, hj, rfl, rfl, hO, hG⟩ := hrel
    by_cases hlt : j < n
    · have f1 := hO.out.free (j * 2)
      have f2 := hO.out.free (j * 2 + 1)
      have g1 := (hO.out.reads j (by simp [marksE_length]; have := Hn.out; omega)).1
      have g2 := (hO.out.reads j (by simp [marksE_length]; have := Hn.out; omega)).2
      rw [Nat.zero_add] at g1 g2
      obtain ⟨q, hq⟩ : ∃ q, k0 + 2 * (j : Int) = q := ⟨_, rfl⟩
      have q1 : 0 ≤ q := by omega
      have q2 : q ≤ 9223372036854775000 := by have := Hk.out; have := Hl.out; omega
      rw [hq]
      have HQ := hid hq
      clear hq
      go_wp2
      refine wp_loop_rounds 3 ?_
      rw [rounds_succ]
      go_wp2
      rw [rounds_succ]
      go_wp2
      rw [rounds_succ]
      go_wp2
      go_roundw
      case rel =>
        refine ⟨j + 1, by omega, by go_num, ?_, hid ?_, hid (gset (gset hG.out _ _) _ _)⟩
        · congr 1
          have := HQ.out
          omega
        · rw [← marksE_step Hn.out hlt, HQ.out]
          exact hO.out.set (by simp [marksE_length]; have := Hn.out; omega) _ _
      case measure => simp [intOf]; omega
    · obtain rfl : j = n := by omega
      go_wp2
      go_ret
      refine ⟨rfl, ?_, hG.out⟩
      have h := hO.out
      rw [List.drop_of_length_le (by have := Hn.out; omega), List.append_nil] at h
      exact h

set_option maxRecDepth 100000 in
set_option maxHeartbeats 2000000 in
theorem heldEdgeS_own (b off c n : Nat) (k0 : Int) (w : World) (hlen : n ≤ 1048576) (hk0 : 0 ≤ k0) (hk1 : k0 ≤ 4194304) (hr : ReadsE w b off (marksE k0 n)) :
    Calls Try.prog 42 #[.slice (some ⟨b, off, none⟩) n c, .int .i64 k0] w fun e w' => e = .returned (.int .i64 (k0 + 2 * n)) ∧ w = w' := by
  have Hr := hid hr
  have hl2 : n ≤ 9223372036854775807 := by omega
  have Hl := hid hlen
  have Hk := hid hk1
  clear hr hlen hk1
  go_enter Try.func42, Try.ntmps42
  go_wp2
  go_loop [1, 5] (fun k i => ∃ j : Nat, j ≤ n ∧ i = .int .i64 j ∧ k = .int .i64 (k0 + 2 * j)) (fun _ i => n - (intOf i).toNat)
  case atStart => exact ⟨0, Nat.zero_le _, rfl, by simp⟩
  case round =>
    obtain ⟨j, hj, rfl, rfl⟩ := hrel
    by_cases hlt : j < n
    · have g1 := (Hr.out j (by rw [marksE_length]; exact hlt)).1
      have g2 := (Hr.out j (by rw [marksE_length]; exact hlt)).2
      rw [(marksE_at hlt).1] at g1
      rw [(marksE_at hlt).2] at g2
      obtain ⟨q, hq⟩ : ∃ q, k0 + 2 * (j : Int) = q := ⟨_, rfl⟩
      have q1 : 0 ≤ q := by omega
      have q2 : q ≤ 9223372036854775000 := by have := Hk.out; have := Hl.out; omega
      rw [hq] at g1 g2 ⊢
      have HQ := hid hq
      have n1 : (q != q) = false := by simp
      have n2 : (q + 1 != q + 1) = false := by simp
      clear hq
      go_wp2
      refine wp_loop_rounds 3 ?_
      rw [rounds_succ]
      go_wp2
      rw [rounds_succ]
      go_wp2
      rw [rounds_succ]
      go_wp2
      go_round
      case rel =>
        refine ⟨j + 1, by omega, by go_num, ?_⟩
        congr 1
        have := HQ.out
        omega
      case measure => simp [intOf]; omega
    · obtain rfl : j = n := by omega
      go_wp2
      go_ret
      exact ⟨rfl, rfl⟩

end Go.Proofs.Ytfdlhdgmbjdhbaa

namespace Go.Proofs.Ytfdlhdgmbjdhbaa
open Go.RowKit

theorem drew_size (w : World) : w.drew.heap.size = w.heap.size := rfl

/-- A slice of edges in memory of the call's own, from block B on; or nil, of no edge. -/
def FreshE (B : Nat) (w : World) (q : Option Addr) (n cap : Nat) (es : List (Int × Int)) : Prop := w.ownsRow B 57 2 (.slice q n cap) n (edgeVals es) ∧ es.length = n

/-- A graph's two cells in a block. -/
def Box (w : World) (B : Nat) (s : Int) (q : Option Addr) (n cap : Nat) : Prop := w.cell? ⟨B, 0, none⟩ = some (.int .i64 s) ∧ w.cell? ⟨B, 1, none⟩ = some (.slice q n cap)

section
variable {B n cap : Nat} {w w' : World} {q : Option Addr} {es : List (Int × Int)} {s : Int}
theorem FreshE.form (h : FreshE B w q n cap es) : (q = none ∧ n = 0 ∧ cap = 0 ∧ es = []) ∨ ∃ g, q = some ⟨g, 0, none⟩ ∧ B ≤ g ∧ OwnE w g cap es := by
  rcases h.1.2 with ⟨e, h0⟩ | ⟨g, cap', cur, e, hb, _⟩
  · injection e with e1 e2 e3
    exact .inl ⟨e1, e2, e3, List.eq_nil_of_length_eq_zero (h.2.trans h0)⟩
  · injection e with e1 e2 e3
    subst e1
    subst e3
    exact .inr ⟨g, rfl, hb, (OwnE.of_row h.1 h.2).1⟩
theorem FreshE.sees (h : FreshE B w q n cap es) : SeesE w q es := by
  rcases h.form with ⟨_, _, _, h⟩ | ⟨g, rfl, _, h⟩
  · exact .inl h
  · exact h.sees
theorem FreshE.kept {row : Option Nat} (h : FreshE B w q n cap es) (hg : w.grownBy w' row) (hne : (Value.slice q n cap).ownBlock = none ∨ (Value.slice q n cap).ownBlock ≠ row) : FreshE B w' q n cap es := ⟨h.1.kept hg hne, h.2⟩
theorem below_grown (hb : Below w.heap.size w w') : w.grownBy w' none := ⟨hb.os, hb.tape, hb.output, hb.size, fun k hk _ => hb.block k hk⟩
theorem FreshE.on (h : FreshE B w q n cap es) (hb : Below w.heap.size w w') : FreshE B w' q n cap es :=
  h.kept (below_grown hb) (by cases hq : (Value.slice q n cap).ownBlock with
    | none => exact .inl rfl
    | some g => exact .inr (by simp))
theorem FreshE.own (h : FreshE B w q n cap es) {g : Nat} (hg : (Value.slice q n cap).ownBlock = some g) : B ≤ g ∧ g < w.heap.size := h.1.lt g hg
theorem FreshE.far (h : FreshE B w q n cap es) {a : Addr} (ha : a.block < B) (v : Value) : FreshE B (w.setCell a v) q n cap es := ⟨ownsRow_setCell_below h.1 ha v, h.2⟩
theorem FreshE.less {B' : Nat} (h : FreshE B w q n cap es) (hB : B' ≤ B) : FreshE B' w q n cap es := by
  refine ⟨⟨h.1.1, ?_⟩, h.2⟩
  rcases h.1.2 with hn | ⟨g, c, cur, hv, hb, r⟩
  · exact .inl hn
  · exact .inr ⟨g, c, cur, hv, Nat.le_trans hB hb, r⟩
theorem FreshE.nil (w : World) (B : Nat) : FreshE B w none 0 0 [] := ⟨World.ownsRow_nil _ _ _ _, rfl⟩
theorem FreshE.of_own {g : Nat} (h : OwnE w g cap es) (hl : es.length = n) (hb : B ≤ g) : FreshE B w (some ⟨g, 0, none⟩) n cap es := ⟨h.row hl hb, hl⟩
theorem Box.lt {b : Nat} (h : Box w b s q n cap) : b < w.heap.size := World.block_lt_of_cell? w _ h.1
theorem Box.on {b : Nat} (h : Box w b s q n cap) (hb : Below w.heap.size w w') : Box w' b s q n cap := ⟨((bcells hb).1 _ _ h.lt).trans h.1, ((bcells hb).1 _ _ h.lt).trans h.2⟩
theorem Box.kept {b : Nat} {row : Option Nat} (h : Box w b s q n cap) (hg : w.grownBy w' row) (hne : some b ≠ row) : Box w' b s q n cap := ⟨hg.cell h.1 hne, hg.cell h.2 hne⟩
theorem Box.new (w : World) (s : Int) (q : Option Addr) (n cap : Nat) (t : TypeId) : Box (w.alloc (.cells #[.int .i64 s, .slice q n cap] t)) w.heap.size s q n cap := ⟨by simp, by simp⟩
theorem FreshE.drew {B : Nat} {w : World} {q : Option Addr} {n cap : Nat} {es : List (Int × Int)} (h : FreshE B w q n cap es) : FreshE B w.drew q n cap es := h
theorem Box.drew {w : World} {b : Nat} {s : Int} {q : Option Addr} {n cap : Nat} (h : Box w b s q n cap) : Box w.drew b s q n cap := h
theorem on_alloc (w : World) (o : Obj) : Below w.heap.size w (w.alloc o) := (Below.refl _ _).alloc (Nat.le_refl _) o
end

set_option maxRecDepth 100000 in
set_option maxHeartbeats 1000000 in
theorem markEdgeS_nil (p : Option Addr) (c : Nat) (k0 : Int) (w : World) :
    Calls Try.prog 41 #[.slice p 0 c, .int .i64 k0] w fun e w' => e = .returned (.int .i64 k0) ∧ w = w' := by
  go_enter Try.func41, Try.ntmps41
  go_wp2
  go_rounds 1
  go_ret
  exact ⟨rfl, rfl⟩

set_option maxRecDepth 100000 in
set_option maxHeartbeats 1000000 in
theorem heldEdgeS_nil (p : Option Addr) (c : Nat) (k0 : Int) (w : World) :
    Calls Try.prog 42 #[.slice p 0 c, .int .i64 k0] w fun e w' => e = .returned (.int .i64 k0) ∧ w = w' := by
  go_enter Try.func42, Try.ntmps42
  go_wp2
  go_rounds 1
  go_ret
  exact ⟨rfl, rfl⟩

theorem markEdgeS_fresh (B n cap : Nat) (q : Option Addr) (es : List (Int × Int)) (w : World) (hlen : n ≤ 1048576) (h : FreshE B w q n cap es) :
    Calls Try.prog 41 #[.slice q n cap, .int .i64 1] w fun e w' => e = .returned (.int .i64 (1 + 2 * n)) ∧ FreshE B w' q n cap (marksE 1 n) ∧ w.grownBy w' (Value.slice q n cap).ownBlock := by
  rcases h.form with ⟨rfl, rfl, rfl, rfl⟩ | ⟨g, rfl, hb, ho⟩
  · refine (markEdgeS_nil none 0 1 w).mono fun e w' ⟨he, hw⟩ => ?_
    subst hw
    exact ⟨he, FreshE.nil _ _, World.grownBy.refl _ _⟩
  · refine (markEdgeS_own g cap n 1 es w h.2 hlen (by omega) (by omega) ho).mono fun e w' ⟨he, ho', hg⟩ => ?_
    exact ⟨he, FreshE.of_own ho' (marksE_length 1 n) hb, hg⟩

theorem heldEdgeS_sees (n c : Nat) (q : Option Addr) (w : World) (hlen : n ≤ 1048576) (h : SeesE w q (marksE 1 n)) :
    Calls Try.prog 42 #[.slice q n c, .int .i64 1] w fun e w' => e = .returned (.int .i64 (1 + 2 * n)) ∧ w = w' := by
  rcases h with h | ⟨b, off, rfl, hr⟩
  · have h0 : n = 0 := by have := congrArg List.length h; rw [marksE_length] at this; simpa using this
    subst h0
    exact heldEdgeS_nil q c 1 w
  · exact heldEdgeS_own b off c n 1 w hlen (by omega) (by omega) hr

set_option maxRecDepth 100000 in
set_option maxHeartbeats 1000000 in
theorem markGraph_fresh (B n cap : Nat) (s : Int) (q : Option Addr) (es : List (Int × Int)) (w : World) (hlen : n ≤ 1048576) (h : FreshE B w q n cap es) :
    Calls Try.prog 11 #[.agg #[.int .i64 s, .slice q n cap], .int .i64 1] w fun e w' => e = .returned (.int .i64 (1 + 2 * n)) ∧ FreshE B w' q n cap (marksE 1 n) ∧ w.grownBy w' (Value.slice q n cap).ownBlock := by
  have Hh := hid h
  have Hl := hid hlen
  clear h hlen
  go_enter Try.func11, Try.ntmps11
  go_wp2_with (go_at_call 41; refine (markEdgeS_fresh B n cap q es _ Hl.out (Hh.out.on (on_alloc _ _))).mono ?_; rintro e w2 ⟨rfl, hf2, hg2⟩; have HF2 := hid hf2; have HG2 := hid hg2; clear hf2 hg2)
  go_ret
  refine ⟨rfl, HF2.out, ?_⟩
  have h1 := HG2.out
  exact ⟨h1.os, h1.tape, h1.output, by have := h1.size; simp at this; omega, fun k hk hne => (h1.block k (by simp; omega) hne).trans (Below.heap_alloc w _ k hk)⟩

set_option maxRecDepth 100000 in
set_option maxHeartbeats 1000000 in
theorem heldGraph_sees (n c : Nat) (s : Int) (q : Option Addr) (w : World) (hlen : n ≤ 1048576) (h : SeesE w q (marksE 1 n)) :
    Calls Try.prog 12 #[.agg #[.int .i64 s, .slice q n c], .int .i64 1] w fun e w' => e = .returned (.int .i64 (1 + 2 * n)) ∧ Below w.heap.size w w' := by
  have Hh := hid h
  have hl2 : (n : Int) ≤ 1048576 := by omega
  have Hl := hid hlen
  clear h hlen
  have hneg : decide ((1 : Int) + 2 * n < 0) = false := by simp; omega
  go_enter Try.func12, Try.ntmps12
  go_wp2_with (go_at_call 42; refine (heldEdgeS_sees n c q _ Hl.out (Hh.out.alloc _)).mono ?_; rintro e w2 ⟨rfl, rfl⟩)
  go_ret
  exact ⟨rfl, by go_grown⟩

end Go.Proofs.Ytfdlhdgmbjdhbaa
