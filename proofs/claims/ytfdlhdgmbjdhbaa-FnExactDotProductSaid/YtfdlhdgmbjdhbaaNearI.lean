/- Near and close edges in the program: haveCommonVertex, areClose. -/
import Derived.Test.YtfdlhdgmbjdhbaaNearA
import Derived.Test.YtfdlhdgmbjdhbaaLawsF
import Derived.Test.YtfdlhdgmbjdhbaaSetI
import Derived.BigQuiet
namespace Go.Proofs.Ytfdlhdgmbjdhbaa
open Go.RowKit

theorem readsI_two {w : World} {g : Nat} {a b : Int} {t : TypeId} {fr : Nat × Nat} (h : w.heap[g]? = some (.cells #[.int .i64 a, .int .i64 b] t fr)) : ReadsI w g 0 [a, b] := fun i hi => by
  rw [cell_of_row w g _ _ _ _ h]
  rcases (by simp at hi; omega : i = 0 ∨ i = 1) with rfl | rfl <;> rfl
theorem meet_in (a b c d : Int) : (decide (c ∈ [a, b]) || decide (d ∈ [a, b])) = meetB a b c d := by
  unfold meetB
  rw [Bool.eq_iff_iff]
  simp only [Bool.or_eq_true, beq_iff_eq, decide_eq_true_eq, List.mem_cons, List.not_mem_nil, or_false]
  omega

/-- Two numbers in a block of its own. -/
def Boxed2 (w : World) (B : Nat) (t : TypeId) (x y : Int) : Prop := w.heap[B]? = some (.cells #[.int .i64 x, .int .i64 y] t (0, 0))
section
variable {w w' : World} {B : Nat} {t : TypeId} {x y : Int}
theorem Boxed2.on (h : Boxed2 w B t x y) (hb : Below w.heap.size w w') : Boxed2 w' B t x y := (hb.block B (Array.getElem?_eq_some_iff.1 h).1).trans h
theorem Boxed2.lt (h : Boxed2 w B t x y) : B < w.heap.size := (Array.getElem?_eq_some_iff.1 h).1
theorem Boxed2.new (w : World) (t : TypeId) (x y : Int) : Boxed2 (w.alloc (.cells #[.int .i64 x, .int .i64 y] t)) w.heap.size t x y := heap_alloc_new w _
theorem Boxed2.c0 (h : Boxed2 w B t x y) : w.cell? ⟨B, 0, none⟩ = some (.int .i64 x) := cell_of_row w B 0 _ _ _ h
theorem Boxed2.c1 (h : Boxed2 w B t x y) : w.cell? ⟨B, 1, none⟩ = some (.int .i64 y) := cell_of_row w B 1 _ _ _ h
end

theorem containsW {q : Option Addr} {xs : List Int} {w : World} {r : Bool} (x : Int) (hr : SeesI w q xs) (h : decide (x ∈ xs) = r) (hl : xs.length = 2 := by rfl) :
    Calls Try.prog 72 #[.slice q 2 2, .int .i64 x] w fun e w' => e = .returned (.bool r) ∧ w = w' := by
  rw [← h]
  exact iContains_any q 2 2 x xs w hl (by omega) hr

set_option maxRecDepth 100000 in
set_option maxHeartbeats 4000000 in
theorem iHave_any (a b c d : Int) (w : World) :
    Calls Try.prog 36 #[.agg #[.int .i64 a, .int .i64 b], .agg #[.int .i64 c, .int .i64 d]] w fun e' w' => e' = .returned (.bool (meetB a b c d)) ∧ Below w.heap.size w w' := by
  obtain ⟨r, hR⟩ : ∃ r, meetB a b c d = r := ⟨_, rfl⟩
  rw [hR]
  have HR := hid ((meet_in a b c d).trans hR)
  clear hR
  go_enter Try.func36, Try.ntmps36
  go_wp2
  obtain ⟨w2, hw2⟩ : ∃ w2, w2 = (w.alloc (.cells #[.int .i64 a, .int .i64 b] 57)).alloc (.cells #[.int .i64 c, .int .i64 d] 57) := ⟨_, rfl⟩
  have HB2 := hid (show Below w.heap.size w w2 by rw [hw2]; exact bfrom (on_alloc _ _) (on_alloc _ _))
  have h1 : w2.heap[w.heap.size]? = some (.cells #[.int .i64 a, .int .i64 b] 57 (0, 0)) := by
    rw [hw2]
    exact (Below.heap_alloc _ _ _ (by simp)).trans (heap_alloc_new w _)
  have h2 : w2.heap[w.heap.size + 1]? = some (.cells #[.int .i64 c, .int .i64 d] 57 (0, 0)) := by
    rw [hw2]
    have h := heap_alloc_new (w.alloc (.cells #[.int .i64 a, .int .i64 b] 57)) (.cells #[.int .i64 c, .int .i64 d] 57)
    rw [World.size_alloc] at h
    exact h
  have HS := hid (show SeesI w2 (some ⟨w.heap.size, 0, none⟩) [a, b] from .inr ⟨_, _, rfl, readsI_two h1⟩)
  have hc := cell_of_row w2 (w.heap.size + 1) 0 _ _ _ h2
  have hd := cell_of_row w2 (w.heap.size + 1) 1 _ _ _ h2
  have hl : w.heap.size + 1 < w2.heap.size := (Array.getElem?_eq_some_iff.1 h2).1
  have hl0 : w.heap.size < w2.heap.size := by omega
  simp at hc hd
  rw [← hw2]
  clear hw2 h1 h2
  cases g1 : decide (c ∈ [a, b])
  · cases g2 : decide (d ∈ [a, b])
    all_goals
      go_quiet ((first
        | (go_at_call_of 72 c; exact quiet_same (containsW c (HS.out.on (bdn.2 (Below.refl _ _))) g1))
        | (go_at_call 72; exact quiet_same (containsW d (HS.out.on (bdn.2 (Below.refl _ _))) g2))))
      go_wp2
      go_ret
      exact ⟨by rw [← HR.out, g1, g2]; rfl, bdn.2 HB2.out⟩
  · go_quiet ((go_at_call 72; exact quiet_same (containsW c (HS.out.on (bdn.2 (Below.refl _ _))) g1)))
    go_wp2
    go_ret
    exact ⟨by rw [← HR.out, g1]; rfl, bdn.2 HB2.out⟩





end Go.Proofs.Ytfdlhdgmbjdhbaa
