/- The matrix of a graph as it is counted, edge after edge. No program is named here. -/
import Derived.Test.YtbimllpfbgjajaaTreeB
namespace Go.Proofs.Ytbimllpfbgjajaa
open Go.RowKit

/-- The matrix of all vertices but 0, of the first m edges. -/
def accT (es : List (Int × Int)) (m k l : Nat) : Int := if l = k then (((List.range m).filter (onE es ((k : Int) + 1))).length : Int) else -(((List.range m).filter fun e => onE es ((k : Int) + 1) e && othE es ((k : Int) + 1) e == (l : Int) + 1).length : Int)
theorem accT_zero (es : List (Int × Int)) (k l : Nat) : accT es 0 k l = 0 := by
  unfold accT
  split <;> rfl
theorem accT_end {es : List (Int × Int)} {k l : Nat} (h3 : (onL es ((k : Int) + 1)).length = 3) : accT es es.length k l = matT es k l := by
  unfold accT matT
  by_cases e : l = k
  · rw [if_pos e, if_pos e]
    unfold onL at h3
    rw [h3]
    rfl
  · rw [if_neg e, if_neg e]
    unfold joinT onL
    rw [List.filter_filter]
    congr 3
    apply List.filter_congr
    intro x _
    rw [Bool.and_comm]
/-- One edge more: its two ends are X and Y. -/
theorem accT_step {es : List (Int × Int)} {m X Y : Nat} (hX : eA es m = X) (hY : eB es m = Y) (k l : Nat) :
    accT es (m + 1) k l = accT es m k l + (if l = k then (if X = k + 1 ∨ Y = k + 1 then 1 else 0) else (if (X = k + 1 ∧ Y = l + 1) ∨ (X = l + 1 ∧ Y = k + 1) then -1 else 0)) := by
  unfold accT
  rw [List.range_succ, List.filter_append, List.filter_append, List.length_append, List.length_append]
  by_cases e : l = k
  · rw [if_pos e, if_pos e, if_pos e]
    by_cases h : X = k + 1 ∨ Y = k + 1
    · rw [if_pos h]
      have h1 : onE es ((k : Int) + 1) m = true := by
        unfold onE
        rw [hX, hY, Bool.or_eq_true, beq_iff_eq, beq_iff_eq]
        omega
      rw [List.filter_cons_of_pos h1]
      simp
    · rw [if_neg h]
      have h1 : ¬ onE es ((k : Int) + 1) m = true := by
        unfold onE
        rw [hX, hY, Bool.or_eq_true, beq_iff_eq, beq_iff_eq]
        omega
      rw [List.filter_cons_of_neg h1]
      simp
  · rw [if_neg e, if_neg e, if_neg e]
    by_cases h : (X = k + 1 ∧ Y = l + 1) ∨ (X = l + 1 ∧ Y = k + 1)
    · rw [if_pos h]
      have h1 : (onE es ((k : Int) + 1) m && othE es ((k : Int) + 1) m == (l : Int) + 1) = true := by
        unfold onE othE
        rw [hX, hY, Bool.and_eq_true, Bool.or_eq_true, beq_iff_eq, beq_iff_eq, beq_iff_eq]
        omega
      rw [List.filter_cons_of_pos (p := fun e => onE es ((k : Int) + 1) e && othE es ((k : Int) + 1) e == (l : Int) + 1) h1]
      simp
      omega
    · rw [if_neg h]
      have h1 : ¬ (onE es ((k : Int) + 1) m && othE es ((k : Int) + 1) m == (l : Int) + 1) = true := by
        unfold onE othE
        rw [hX, hY, Bool.and_eq_true, Bool.or_eq_true, beq_iff_eq, beq_iff_eq, beq_iff_eq]
        omega
      rw [List.filter_cons_of_neg (p := fun e => onE es ((k : Int) + 1) e && othE es ((k : Int) + 1) e == (l : Int) + 1) h1]
      simp

end Go.Proofs.Ytbimllpfbgjajaa
