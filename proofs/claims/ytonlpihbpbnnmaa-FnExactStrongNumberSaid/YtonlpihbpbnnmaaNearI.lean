/- Near and close edges in the program: haveCommonVertex, areClose. -/
import Derived.Test.YtonlpihbpbnnmaaNearA
import Derived.Test.YtonlpihbpbnnmaaLawsF
import Derived.Test.YtonlpihbpbnnmaaSetI
import Derived.BigQuiet
namespace Go.Proofs.Ytonlpihbpbnnmaa
open Go.RowKit

theorem readsI_two {w : World} {g : Nat} {a b : Int} {t : TypeId} {fr : Nat × Nat} (h : w.heap[g]? = some (.cells #[.int .i64 a, .int .i64 b] t fr)) : ReadsI w g 0 [a, b] := fun i hi => by
  rw [cell_of_row w g _ _ _ _ h]
  rcases (by simp at hi; omega : i = 0 ∨ i = 1) with rfl | rfl <;> rfl
theorem meet_in (a b c d : Int) : (decide (c ∈ [a, b]) || decide (d ∈ [a, b])) = meetB a b c d := by
  unfold meetB
  rw [Bool.eq_iff_iff]
  simp only [Bool.or_eq_true, beq_iff_eq, decide_eq_true_eq, List.mem_cons, List.not_mem_nil, or_false]
  omega

/-- Two numbers in a block of its own. -/
def Boxed2 (w : World) (B : Nat) (t : TypeId) (x y : Int) : Prop := w.heap[B]? = some (.cells #[.int .i64 x, .int .i64 y] t (0, 0))
section
variable {w w' : World} {B : Nat} {t : TypeId} {x y : Int}
theorem Boxed2.on (h : Boxed2 w B t x y) (hb : Below w.heap.size w w') : Boxed2 w' B t x y := (hb.block B (Array.getElem?_eq_some_iff.1 h).1).trans h
theorem Boxed2.lt (h : Boxed2 w B t x y) : B < w.heap.size := (Array.getElem?_eq_some_iff.1 h).1
theorem Boxed2.new (w : World) (t : TypeId) (x y : Int) : Boxed2 (w.alloc (.cells #[.int .i64 x, .int .i64 y] t)) w.heap.size t x y := heap_alloc_new w _
theorem Boxed2.c0 (h : Boxed2 w B t x y) : w.cell? ⟨B, 0, none⟩ = some (.int .i64 x) := cell_of_row w B 0 _ _ _ h
theorem Boxed2.c1 (h : Boxed2 w B t x y) : w.cell? ⟨B, 1, none⟩ = some (.int .i64 y) := cell_of_row w B 1 _ _ _ h
end

theorem containsW {q : Option Addr} {xs : List Int} {w : World} {r : Bool} (x : Int) (hr : SeesI w q xs) (h : decide (x ∈ xs) = r) (hl : xs.length = 2 := by rfl) :
    Calls Try.prog 129 #[.slice q 2 2, .int .i64 x] w fun e w' => e = .returned (.bool r) ∧ w = w' := by
  rw [← h]
  exact iContains_any q 2 2 x xs w hl (by omega) hr

set_option maxRecDepth 100000 in
set_option maxHeartbeats 4000000 in
theorem iHave_any (a b c d : Int) (w : World) :
    Calls Try.prog 115 #[.agg #[.int .i64 a, .int .i64 b], .agg #[.int .i64 c, .int .i64 d]] w fun e' w' => e' = .returned (.bool (meetB a b c d)) ∧ Below w.heap.size w w' := by
  obtain ⟨r, hR⟩ : ∃ r, meetB a b c d = r := ⟨_, rfl⟩
  rw [hR]
  have HR := hid ((meet_in a b c d).trans hR)
  clear hR
  go_enter Try.func115, Try.ntmps115
  go_wp2
  obtain ⟨w2, hw2⟩ : ∃ w2, w2 = (w.alloc (.cells #[.int .i64 a, .int .i64 b] 68)).alloc (.cells #[.int .i64 c, .int .i64 d] 68) := ⟨_, rfl⟩
  have HB2 := hid (show Below w.heap.size w w2 by rw [hw2]; exact bfrom (on_alloc _ _) (on_alloc _ _))
  have h1 : w2.heap[w.heap.size]? = some (.cells #[.int .i64 a, .int .i64 b] 68 (0, 0)) := by
    rw [hw2]
    exact (Below.heap_alloc _ _ _ (by simp)).trans (heap_alloc_new w _)
  have h2 : w2.heap[w.heap.size + 1]? = some (.cells #[.int .i64 c, .int .i64 d] 68 (0, 0)) := by
    rw [hw2]
    have h := heap_alloc_new (w.alloc (.cells #[.int .i64 a, .int .i64 b] 68)) (.cells #[.int .i64 c, .int .i64 d] 68)
    rw [World.size_alloc] at h
    exact h
  have HS := hid (show SeesI w2 (some ⟨w.heap.size, 0, none⟩) [a, b] from .inr ⟨_, _, rfl, readsI_two h1⟩)
  have hc := cell_of_row w2 (w.heap.size + 1) 0 _ _ _ h2
  have hd := cell_of_row w2 (w.heap.size + 1) 1 _ _ _ h2
  have hl : w.heap.size + 1 < w2.heap.size := (Array.getElem?_eq_some_iff.1 h2).1
  have hl0 : w.heap.size < w2.heap.size := by omega
  simp at hc hd
  rw [← hw2]
  clear hw2 h1 h2
  cases g1 : decide (c ∈ [a, b])
  · cases g2 : decide (d ∈ [a, b])
    all_goals
      go_quiet ((first
        | (go_at_call_of 129 c; exact quiet_same (containsW c (HS.out.on (bdn.2 (Below.refl _ _))) g1))
        | (go_at_call 129; exact quiet_same (containsW d (HS.out.on (bdn.2 (Below.refl _ _))) g2))))
      go_wp2
      go_ret
      exact ⟨by rw [← HR.out, g1, g2]; rfl, bdn.2 HB2.out⟩
  · go_quiet ((go_at_call 129; exact quiet_same (containsW c (HS.out.on (bdn.2 (Below.refl _ _))) g1)))
    go_wp2
    go_ret
    exact ⟨by rw [← HR.out, g1]; rfl, bdn.2 HB2.out⟩

set_option maxRecDepth 100000 in
set_option maxHeartbeats 4000000 in
theorem iCloseF_any (a b x y u v : Int) (B1 B2 : Nat) (w : World) (h1 : w.cell? ⟨B1, 0, none⟩ = some (.int .i64 x)) (h2 : w.cell? ⟨B1, 1, none⟩ = some (.int .i64 y)) (h3 : w.cell? ⟨B2, 0, none⟩ = some (.int .i64 u)) (h4 : w.cell? ⟨B2, 1, none⟩ = some (.int .i64 v)) :
    Calls Try.prog 114 #[.agg #[.int .i64 a, .int .i64 b], .pointer (some ⟨B1, 0, none⟩), .pointer (some ⟨B2, 0, none⟩)] w fun e' w' => e' = .returned (.bool (meetB a b x y && meetB a b u v)) ∧ Below w.heap.size w w' := by
  have hl1 := World.block_lt_of_cell? w _ h1
  have hl2 := World.block_lt_of_cell? w _ h3
  dsimp only at hl1 hl2
  have H3 := hid h3
  have H4 := hid h4
  cases g1 : meetB a b x y
  · go_enter Try.func114, Try.ntmps114
    go_wp2_with fail
    refine (iHave_any a b x y _).mono ?_
    rw [g1]
    rintro e' w2 ⟨rfl, hb2⟩
    have HB2 := hid (bfrom (on_alloc w (.cells #[.int .i64 a, .int .i64 b] 68)) hb2)
    clear hb2
    go_wp2
    go_ret
    exact ⟨rfl, HB2.out⟩
  · have hbx := Boxed2.new w 68 a b
    have HX := hid hbx
    go_enter Try.func114, Try.ntmps114
    go_wp2_with fail
    refine (iHave_any a b x y _).mono ?_
    rw [g1]
    rintro e' w2 ⟨rfl, hb2⟩
    have HB2 := hid (bfrom (on_alloc w (.cells #[.int .i64 a, .int .i64 b] 68)) hb2)
    have k1 := (HX.out.on hb2).c0
    have k2 := (HX.out.on hb2).c1
    have k3 := (HB2.out.cell (p := ⟨B2, 0, none⟩) hl2).trans H3.out
    have k4 := (HB2.out.cell (p := ⟨B2, 1, none⟩) hl2).trans H4.out
    have k5 : w.heap.size < w2.heap.size := (HX.out.on hb2).lt
    have k6 : B2 < w2.heap.size := by omega
    clear hb2 h3 h4
    go_wp2_with fail
    refine (iHave_any a b u v _).mono ?_
    rintro e' w3 ⟨rfl, hb3⟩
    have HB3 := hid (bfrom HB2.out hb3)
    clear hb3
    go_wp2
    go_ret
    exact ⟨rfl, HB3.out⟩

set_option maxRecDepth 100000 in
set_option maxHeartbeats 4000000 in
theorem iIndexFE_any (b off n c : Nat) (u1 u2 : Value) (es : List (Int × Int)) (p : Nat → Bool) (w : World) (hn : es.length = n) (hm : n ≤ 30) (hr : ReadsE w b off es)
    (hG : ∀ i, i < n → ∀ W, Below w.heap.size w W → Calls Try.prog 114 #[.agg #[.int .i64 (eA es i), .int .i64 (eB es i)], u1, u2] W fun e' w' => e' = .returned (.bool (p i)) ∧ Below W.heap.size W w') :
    Calls Try.prog 151 #[.slice (some ⟨b, off, none⟩) n c, .func (.func 114) #[] #[u1, u2]] w fun e' w' => (∃ r : Int, e' = .returned (.int .i64 r) ∧ decide (0 ≤ r) = decide (∃ i, i < n ∧ p i = true)) ∧ Below w.heap.size w w' := by
  have Hn := hid hn
  have Hr := hid hr
  have HG := hid hG
  clear hn hr hG
  go_enter Try.func151, Try.ntmps151
  go_wp2
  go_loopw [8] (fun i wr => ∃ k : Nat, k ≤ n ∧ i = .int .i64 k ∧ Hid (∀ j, j < k → p j = false) ∧ Hid (Below w.heap.size w wr)) (fun i _ => n - (intOf i).toNat)
  case atStart => exact ⟨0, Nat.zero_le _, rfl, hid (fun j hj => by omega), hid (Below.refl _ _)⟩
  case round =>
    obtain ⟨k, hk, rfl, hE, hB⟩ := hrel
    by_cases hlt : k < n
    · obtain ⟨h1, h2⟩ := Hr.out.on hB.out k (by have := Hn.out; omega)
      have hbl := World.block_lt_of_cell? wr _ h1
      dsimp only at hbl
      obtain ⟨x, hx⟩ : ∃ x, eA es k = x := ⟨_, rfl⟩
      obtain ⟨y, hy⟩ : ∃ y, eB es k = y := ⟨_, rfl⟩
      have hc := HG.out k hlt wr hB.out
      rw [hx] at h1 hc
      rw [hy] at h2 hc
      have HC := hid hc
      clear hx hy hc
      cases hp : p k
      · go_wp2_with fail
        refine HC.out.mono ?_
        rw [hp]
        rintro e' w2 ⟨rfl, hb2⟩
        have HB2 := hid (bfrom hB.out hb2)
        clear hb2
        go_wp2
        go_roundw
        case rel =>
          refine ⟨k + 1, by omega, by go_num, hid (fun j hj => ?_), HB2⟩
          rcases Nat.lt_or_ge j k with h | h
          · exact hE.out j h
          · obtain rfl : j = k := by omega
            exact hp
        case measure => simp [intOf]; omega
      · go_wp2_with fail
        refine HC.out.mono ?_
        rw [hp]
        rintro e' w2 ⟨rfl, hb2⟩
        have HB2 := hid (bfrom hB.out hb2)
        clear hb2
        go_wp2
        go_ret
        exact ⟨⟨k, rfl, by rw [decide_eq_true (show (0 : Int) ≤ (k : Int) by omega), decide_eq_true ⟨k, hlt, hp⟩]⟩, HB2.out⟩
    · obtain rfl : k = n := by omega
      go_wp2
      go_ret
      refine ⟨⟨-1, rfl, ?_⟩, hB.out⟩
      rw [decide_eq_false (show ¬ ∃ i, i < k ∧ p i = true from fun ⟨i, h1, h2⟩ => by rw [hE.out i h1] at h2; cases h2)]
      rfl

set_option maxRecDepth 100000 in
set_option maxHeartbeats 4000000 in
theorem iContainsFE_any (b off n c : Nat) (u1 u2 : Value) (es : List (Int × Int)) (p : Nat → Bool) (w : World) (hn : es.length = n) (hm : n ≤ 30) (hr : ReadsE w b off es)
    (hG : ∀ i, i < n → ∀ W, Below w.heap.size w W → Calls Try.prog 114 #[.agg #[.int .i64 (eA es i), .int .i64 (eB es i)], u1, u2] W fun e' w' => e' = .returned (.bool (p i)) ∧ Below W.heap.size W w') :
    Calls Try.prog 113 #[.slice (some ⟨b, off, none⟩) n c, .func (.func 114) #[] #[u1, u2]] w fun e' w' => e' = .returned (.bool (decide (∃ i, i < n ∧ p i = true))) ∧ Below w.heap.size w w' := by
  obtain ⟨q, hq⟩ : ∃ q, decide (∃ i, i < n ∧ p i = true) = q := ⟨_, rfl⟩
  have HQ := hid hq
  rw [hq]
  have HC := hid (iIndexFE_any b off n c u1 u2 es p w hn hm hr hG)
  clear hn hr hG hq
  go_enter Try.func113, Try.ntmps113
  go_wp2_with fail
  refine HC.out.mono ?_
  rw [HQ.out]
  rintro e' w2 ⟨⟨r, rfl, h2⟩, hb2⟩
  have HB2 := hid hb2
  clear hb2
  cases q
  · have h3 : ¬ 0 ≤ r := of_decide_eq_false h2
    go_wp2
    go_ret
    exact ⟨rfl, HB2.out⟩
  · have h3 : 0 ≤ r := of_decide_eq_true h2
    go_wp2
    go_ret
    exact ⟨rfl, HB2.out⟩

set_option maxRecDepth 100000 in
set_option maxHeartbeats 4000000 in
theorem iAreClose2_any (s : Int) (b off n c E F : Nat) (es : List (Int × Int)) (w : World) (hn : es.length = n) (hm : n ≤ 30) (hr : ReadsE w b off es) (x y u v : Int) (hx : x = eA es E ∧ y = eB es E) (hu : u = eA es F ∧ v = eB es F) (h1n : 1 ≤ n) :
    Calls Try.prog 58 #[.agg #[.int .i64 s, .slice (some ⟨b, off, none⟩) n c], .agg #[.int .i64 x, .int .i64 y], .agg #[.int .i64 u, .int .i64 v]] w fun e' w' => e' = .returned (.bool (closeB es E F)) ∧ Below w.heap.size w w' := by
  have hbl : b < w.heap.size := reads_lt hr (by omega)
  have Hn := hid hn
  have Hr := hid hr
  have HX := hid (And.intro hx hu)
  have HP : Hid (∀ i, (meetB (eA es i) (eB es i) x y && meetB (eA es i) (eB es i) u v) = (nearB es i E && nearB es i F)) := hid (fun i => by rw [hx.1, hx.2, hu.1, hu.2]; rfl)
  have HR := hid (show decide (∃ i, i < n ∧ (meetB (eA es i) (eB es i) x y && meetB (eA es i) (eB es i) u v) = true) = closeB es E F by
    unfold closeB
    rw [decide_eq_decide]
    unfold closeP
    rw [hn]
    constructor
    · rintro ⟨i, h1, h2⟩
      rw [HP.out i, Bool.and_eq_true] at h2
      exact ⟨i, h1, h2.1, h2.2⟩
    · rintro ⟨i, h1, h2, h3⟩
      exact ⟨i, h1, by rw [HP.out i, h2, h3]; rfl⟩)
  obtain ⟨r, hR⟩ : ∃ r, closeB es E F = r := ⟨_, rfl⟩
  rw [hR] at HR ⊢
  clear hn hr hx hu hR
  have hX := Box.new w s (some ⟨b, off, none⟩) n c 30
  have hE := Boxed2.new (w.alloc (.cells #[.int .i64 s, .slice (some ⟨b, off, none⟩) n c] 30)) 68 x y
  have hF := Boxed2.new ((w.alloc (.cells #[.int .i64 s, .slice (some ⟨b, off, none⟩) n c] 30)).alloc (.cells #[.int .i64 x, .int .i64 y] 68)) 68 u v
  have HX3 := hid ((hX.on (on_alloc _ (.cells #[.int .i64 x, .int .i64 y] 68))).on (on_alloc _ (.cells #[.int .i64 u, .int .i64 v] 68)))
  have HE3 := hid (hE.on (on_alloc _ (.cells #[.int .i64 u, .int .i64 v] 68)))
  have HF3 := hid hF
  rw [World.size_alloc] at HE3
  rw [World.size_alloc, World.size_alloc] at HF3
  have HB3 := hid (bfrom (bfrom (on_alloc w (.cells #[.int .i64 s, .slice (some ⟨b, off, none⟩) n c] 30)) (on_alloc _ (.cells #[.int .i64 x, .int .i64 y] 68))) (on_alloc _ (.cells #[.int .i64 u, .int .i64 v] 68)))
  clear hX hE hF
  obtain ⟨w3, hw3⟩ : ∃ w3, w3 = ((w.alloc (.cells #[.int .i64 s, .slice (some ⟨b, off, none⟩) n c] 30)).alloc (.cells #[.int .i64 x, .int .i64 y] 68)).alloc (.cells #[.int .i64 u, .int .i64 v] 68) := ⟨_, rfl⟩
  rw [← hw3] at HX3 HE3 HF3 HB3
  have HW := hid hw3
  clear hw3
  go_enter Try.func58, Try.ntmps58
  go_wp2_with fail
  rw [← HW.out]
  refine (iContainsFE_any b off n c _ _ es (fun i => meetB (eA es i) (eB es i) x y && meetB (eA es i) (eB es i) u v) w3 Hn.out hm (Hr.out.on HB3.out) (fun i hi W hW => ?_)).mono ?_
  · exact iCloseF_any _ _ x y u v _ _ W (HE3.out.on hW).c0 (HE3.out.on hW).c1 (HF3.out.on hW).c0 (HF3.out.on hW).c1
  · rw [HR.out]
    rintro e' w4 ⟨rfl, hb4⟩
    have HB4 := hid (bfrom HB3.out hb4)
    clear hb4
    go_wp2
    go_ret
    exact ⟨rfl, HB4.out⟩

end Go.Proofs.Ytonlpihbpbnnmaa
