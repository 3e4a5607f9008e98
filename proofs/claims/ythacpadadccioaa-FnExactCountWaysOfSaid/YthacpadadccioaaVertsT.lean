/- The code of two vertices in the model. -/
import Derived.Test.YthacpadadccioaaSpecD
namespace Go.Proofs.Ythacpadadccioaa
open Go.RowKit

theorem reads_two (w : World) (u v : Int) (t : TypeId) (g : Nat) (hg : g = w.heap.size) : ReadsI (w.alloc (.cells #[.int .i64 u, .int .i64 v] t)) g 0 [u, v] := fun i hi => by
  subst hg
  have hi' : i < 2 := by simpa using hi
  rcases (by omega : i = 0 ∨ i = 1) with rfl | rfl
  · simp [eI]
  · simp [eI]
theorem verts_two (s : Int) (es : List (Int × Int)) (u v : Int) : vertsCode s es [u, v] = if IsG s es then (if (0 ≤ u ∧ u < s) ∧ (0 ≤ v ∧ v < s) then 0 else 2) else 1 := by
  unfold vertsCode
  by_cases h : IsG s es
  · rw [if_pos h, if_pos h]
    by_cases h2 : (0 ≤ u ∧ u < s) ∧ (0 ≤ v ∧ v < s)
    · rw [if_pos h2, if_pos (fun i hi => by
        have hi' : i < 2 := by simpa using hi
        rcases (by omega : i = 0 ∨ i = 1) with rfl | rfl
        · simpa [eI] using h2.1
        · simpa [eI] using h2.2)]
    · rw [if_neg h2, if_neg (fun e => h2 ⟨by simpa [eI] using e 0 (by simp), by simpa [eI] using e 1 (by simp)⟩)]
  · rw [if_neg h, if_neg h]

end Go.Proofs.Ythacpadadccioaa
