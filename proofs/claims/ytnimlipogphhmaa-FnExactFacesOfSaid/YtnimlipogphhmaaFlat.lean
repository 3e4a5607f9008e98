/- Lists one after the other in one row: where they begin. -/
import Derived.Test.YtnimlipogphhmaaMovB
namespace Go.Proofs.Ytnimlipogphhmaa
open Go.RowKit

theorem flat_at : ∀ (Ls : List (List Int)) (i j : Nat), i < Ls.length → j < (lI Ls i).length → eI Ls.flatten (sumLL Ls i + j) = eI (lI Ls i) j := by
  intro Ls
  have key : ∀ i, i ≤ Ls.length → sumLL Ls i = (Ls.take i).flatten.length := by
    intro k
    induction k with
    | zero => intro _; rfl
    | succ k ih =>
      intro hk
      show sumLL Ls k + (lI Ls k).length = _
      rw [ih (by omega), List.take_add_one, lI_lt (by omega), List.flatten_append, List.length_append]
      simp
  intro i j hi hj
  have h1 : Ls.flatten = (Ls.take i).flatten ++ (lI Ls i ++ (Ls.drop (i + 1)).flatten) := by
    have h2 : Ls.drop i = lI Ls i :: Ls.drop (i + 1) := by
      rw [List.drop_eq_getElem_cons hi]
      congr 1
      unfold lI
      simp [hi]
    calc Ls.flatten = (Ls.take i ++ Ls.drop i).flatten := by rw [List.take_append_drop]
      _ = _ := by rw [List.flatten_append, h2, List.flatten_cons]
  rw [h1, key i (by omega)]
  unfold eI
  rw [List.getD_eq_getElem?_getD, List.getD_eq_getElem?_getD, List.getElem?_append_right (by omega), Nat.add_sub_cancel_left, List.getElem?_append_left hj]
theorem rowsV_at {ba i : Nat} {Ls : List (List Int)} (hi : i < Ls.length) : (rowsV ba Ls)[i]? = some (.slice (some ⟨ba, sumLL Ls i, none⟩) (lI Ls i).length (lI Ls i).length) := by
  unfold rowsV
  rw [List.getElem?_map, List.getElem?_range hi]
  rfl

end Go.Proofs.Ytnimlipogphhmaa
