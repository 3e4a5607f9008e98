/- Edges that leave a set of vertices, as plain lists. No program is named here. -/
import Derived.Test.YtogdcoioflcdiaaCutA
namespace Go.Proofs.Ytogdcoioflcdiaa
open Go.RowKit

/-- The edge e has just one end in a set. -/
def leaveB (es : List (Int × Int)) (xs : List Int) (e : Nat) : Bool := decide (eA es e ∈ xs) != decide (eB es e ∈ xs)
def leaveU (es : List (Int × Int)) (xs : List Int) (k : Nat) : List Int := ((List.range k).filter (leaveB es xs)).map fun (i : Nat) => (i : Int)
theorem leaveU_yes {es : List (Int × Int)} {xs : List Int} {k : Nat} (h : leaveB es xs k = true) : leaveU es xs (k + 1) = leaveU es xs k ++ [(k : Int)] := by
  unfold leaveU
  rw [List.range_succ, List.filter_append, List.map_append]
  simp [h]
theorem leaveU_no {es : List (Int × Int)} {xs : List Int} {k : Nat} (h : leaveB es xs k = false) : leaveU es xs (k + 1) = leaveU es xs k := by
  unfold leaveU
  rw [List.range_succ, List.filter_append, List.map_append]
  simp [h]
theorem leaveU_len (es : List (Int × Int)) (xs : List Int) (k : Nat) : (leaveU es xs k).length ≤ k := by
  unfold leaveU
  rw [List.length_map]
  exact Nat.le_trans (List.length_filter_le _ _) (by simp)

def fEdgesLeaving (s : Int) (es : List (Int × Int)) (xs : List Int) : List Int × Int := if IsG s es then (if isSetP s xs then (leaveU es xs es.length, 0) else ([], 2)) else ([], 1)
theorem fEdgesLeaving_len (s : Int) (es : List (Int × Int)) (xs : List Int) (h : es.length ≤ 1048576) (_ : xs.length ≤ 1048576) : (fEdgesLeaving s es xs).1.length ≤ 1048576 := by
  unfold fEdgesLeaving
  split
  · split
    · exact Nat.le_trans (leaveU_len es xs es.length) h
    · simp
  · simp

end Go.Proofs.Ytogdcoioflcdiaa
