/- Two edges bridged, as plain lists: what the model lists and what the program lists are the same edges in another order. No program is named here. -/
import Derived.Test.YtppkcpekknhbmaaRestA
import Derived.Test.YtppkcpekknhbmaaRowsE
namespace Go.Proofs.Ytppkcpekknhbmaa
open Go.RowKit

/-- The same edges in any order are one list once they are in order. -/
theorem sortE_same {xs ys : List (Int × Int)} (h : xs.Perm ys) : sortE xs = sortE ys :=
  sorted_unique ((sortE_perm xs).trans ((h.map normE).trans (sortE_perm ys).symm)) (sortE_pairwise _) (sortE_pairwise _)

/-- What stands for the edge i. -/
def brI (s : Int) (es : List (Int × Int)) (e f i : Nat) : List (Int × Int) := if i = e then [(eA es i, s), (eB es i, s)] else if i = f then [(eA es i, s + 1), (eB es i, s + 1)] else [(eA es i, eB es i)]
def brU (s : Int) (es : List (Int × Int)) (e f k : Nat) : List (Int × Int) := (s, s + 1) :: (List.range k).flatMap (brI s es e f)
theorem brU_zero (s : Int) (es : List (Int × Int)) (e f : Nat) : brU s es e f 0 = [(s, s + 1)] := rfl
theorem brU_succ (s : Int) (es : List (Int × Int)) (e f k : Nat) : brU s es e f (k + 1) = brU s es e f k ++ brI s es e f k := by
  unfold brU
  rw [List.range_succ, List.flatMap_append]
  simp
theorem brI_len (s : Int) (es : List (Int × Int)) (e f i : Nat) : (brI s es e f i).length = if i = e then 2 else if i = f then 2 else 1 := by
  unfold brI
  split
  · rfl
  · split <;> rfl
theorem brU_len (s : Int) (es : List (Int × Int)) (e f : Nat) : ∀ k, (brU s es e f k).length = 1 + k + (if e < k then 1 else 0) + (if f < k ∧ f ≠ e then 1 else 0)
  | 0 => by simp [brU_zero]
  | k + 1 => by
    rw [brU_succ, List.length_append, brU_len s es e f k, brI_len]
    (repeat' split) <;> omega
/-- The edges that the program puts in. -/
def brN (s : Int) (es : List (Int × Int)) (e f : Nat) : List (Int × Int) := [(s, s + 1), (eA es e, s), (eA es f, s + 1), (eB es e, s), (eB es f, s + 1)]
theorem ite_next {α : Type} {a k : Nat} (h : a ≠ k) (x y : α) : (if a < k + 1 then x else y) = if a < k then x else y := by
  by_cases h1 : a < k
  · rw [if_pos h1, if_pos (by omega)]
  · rw [if_neg h1, if_neg (by omega)]
theorem br_part (s : Int) (es : List (Int × Int)) (e f : Nat) (hef : e ≠ f) : ∀ k, (brU s es e f k).Perm (restU es [(e : Int), (f : Int)] k ++ ([(s, s + 1)] ++ ((if e < k then [(eA es e, s), (eB es e, s)] else []) ++ (if f < k then [(eA es f, s + 1), (eB es f, s + 1)] else []))))
  | 0 => by simp [brU_zero, restU]
  | k + 1 => by
    rw [brU_succ]
    refine (List.Perm.append_right _ (br_part s es e f hef k)).trans ?_
    unfold brI
    by_cases h1 : k = e
    · subst h1
      have ho : outB [(k : Int), (f : Int)] k = true := by unfold outB; simp
      rw [restU_no ho, if_pos rfl, if_neg (c := k < k) (by omega), if_pos (c := k < k + 1) (by omega), ite_next (Ne.symm hef), List.nil_append, List.append_assoc]
      refine List.Perm.append_left _ ?_
      rw [List.append_assoc]
      exact List.Perm.append_left _ List.perm_append_comm
    · rw [if_neg h1]
      by_cases h2 : k = f
      · subst h2
        have ho : outB [(e : Int), (k : Int)] k = true := by unfold outB; simp
        rw [restU_no ho, if_pos rfl, if_neg (c := k < k) (by omega), if_pos (c := k < k + 1) (by omega), ite_next hef, List.append_nil, List.append_assoc, List.append_assoc]
      · rw [if_neg h2]
        have ho : outB [(e : Int), (f : Int)] k = false := by
          unfold outB
          refine decide_eq_false fun h => ?_
          simp only [List.mem_cons, List.not_mem_nil, or_false] at h
          omega
        rw [restU_yes ho, ite_next (Ne.symm h1), ite_next (Ne.symm h2), List.append_assoc (restU _ _ _) [_], List.append_assoc (restU _ _ _)]
        exact List.Perm.append_left _ List.perm_append_comm
theorem br_same {s : Int} {es : List (Int × Int)} {e f : Nat} (he : e < es.length) (hf : f < es.length) (hef : e ≠ f) : (brU s es e f es.length).Perm (restE es [(e : Int), (f : Int)] ++ brN s es e f) := by
  have h := br_part s es e f hef es.length
  rw [if_pos he, if_pos hf] at h
  refine h.trans (List.Perm.append_left _ ?_)
  unfold brN
  refine List.Perm.cons _ (List.Perm.cons _ ?_)
  exact List.Perm.swap _ _ _
def fBridgeEdges (s : Int) (es : List (Int × Int)) (e f : Int) : Int × List (Int × Int) × Int :=
  if IsG s es then (if 0 ≤ e ∧ e < es.length ∧ 0 ≤ f ∧ f < es.length then (if e = f then (0, [], 5) else if 18 < s then (0, [], 3) else (s + 2, sortE (brU s es e.toNat f.toNat es.length), 0)) else (0, [], 2)) else (0, [], 1)
theorem fBridgeEdges_len (s : Int) (es : List (Int × Int)) (e f : Int) (h : es.length ≤ 1048576) : (fBridgeEdges s es e f).2.1.length ≤ 1048576 := by
  unfold fBridgeEdges
  split
  · rename_i g
    have := isG_len g
    split
    · split
      · simp
      · split
        · simp
        · show (sortE _).length ≤ _
          rw [sortE_length, brU_len]
          split <;> split <;> omega
    · simp
  · simp

end Go.Proofs.Ytppkcpekknhbmaa
