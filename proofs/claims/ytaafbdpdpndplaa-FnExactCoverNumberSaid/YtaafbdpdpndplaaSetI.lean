/- Sets of numbers in the program: slices.Contains, and whether a list is a set. -/
import Derived.Test.YtaafbdpdpndplaaImplB
import Derived.Test.YtaafbdpdpndplaaCutA
namespace Go.Proofs.Ytaafbdpdpndplaa
open Go.RowKit

/-- What slices.Index hands back tells whether a number is in the list. -/
def IdxPost (xs : List Int) (x : Int) (w : World) (e : Ending) (w' : World) : Prop := ∃ r : Int, e = .returned (.int .i64 r) ∧ decide (0 ≤ r) = decide (x ∈ xs) ∧ w = w'

theorem not_in_take {xs : List Int} {x : Int} {n : Nat} (hl : xs.length = n) (h : ∀ j, j < n → eI xs j ≠ x) : x ∉ xs := fun hm => by
  obtain ⟨j, hj, e⟩ := List.getElem_of_mem hm
  exact h j (by omega) (by rw [eI_lt hj, e])
theorem in_at {xs : List Int} {x : Int} {k : Nat} (hk : k < xs.length) (h : eI xs k = x) : x ∈ xs := by
  rw [← h, eI_lt hk]
  exact List.getElem_mem hk




end Go.Proofs.Ytaafbdpdpndplaa
