/- Two numbers below a bound, in the program. -/
import Derived.Test.YthacpadadccioaaBelow
namespace Go.Proofs.Ythacpadadccioaa
open Go.RowKit

theorem iBelow2_any (N e f : Int) (g c : Nat) (w : World) (u : Bool) (hu : u = true ↔ (0 ≤ e ∧ e < N) ∧ (0 ≤ f ∧ f < N)) (hr : ReadsI w g 0 [e, f]) :
    Calls Try.prog 58 #[.int .i64 N, .slice (some ⟨g, 0, none⟩) 2 c] w fun e' w' => e' = .returned (.bool u) ∧ w' = w := by
  refine (iAreBelow_any N g 0 2 c [e, f] w rfl (by omega) hr).mono ?_
  rintro e' w' ⟨rfl, rfl⟩
  refine ⟨?_, rfl⟩
  congr 2
  rw [Bool.eq_iff_iff, decide_eq_true_iff, hu]
  constructor
  · intro h
    exact ⟨h 0 (by omega), h 1 (by omega)⟩
  · intro h i hi
    rcases (by omega : i = 0 ∨ i = 1) with rfl | rfl
    · exact h.1
    · exact h.2
theorem reads_twoX (w : World) (u v : Int) (t : TypeId) (g : Nat) (hg : g = w.heap.size) : ReadsI (w.alloc (.cells #[.int .i64 u, .int .i64 v] t)) g 0 [u, v] := fun i hi => by
  subst hg
  have hi' : i < 2 := by simpa using hi
  rcases (by omega : i = 0 ∨ i = 1) with rfl | rfl
  · simp [eI]
  · simp [eI]

end Go.Proofs.Ythacpadadccioaa
