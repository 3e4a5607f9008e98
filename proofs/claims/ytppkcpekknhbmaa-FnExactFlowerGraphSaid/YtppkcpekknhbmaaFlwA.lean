/- Flower graphs as plain lists. No program is named here. -/
import Derived.Test.YtppkcpekknhbmaaRowsE
namespace Go.Proofs.Ytppkcpekknhbmaa
open Go.RowKit

/-- The same edges in any order are one list once they are in order. -/
theorem sortE_sameF {xs ys : List (Int × Int)} (h : xs.Perm ys) : sortE xs = sortE ys :=
  sorted_unique ((sortE_perm xs).trans ((h.map normE).trans (sortE_perm ys).symm)) (sortE_pairwise _) (sortE_pairwise _)
def rungL (K : Nat) (D : Int) : List (Int × Int) := (List.range K).map fun (i : Nat) => ((i : Int), (i : Int) + D)
theorem rungL_succ (K : Nat) (D : Int) : rungL (K + 1) D = rungL K D ++ [((K : Int), (K : Int) + D)] := by
  unfold rungL
  rw [List.range_succ, List.map_append]
  rfl
theorem rungL_len (K : Nat) (D : Int) : (rungL K D).length = K := by simp [rungL]
def cycT (A B : Int) (j : Nat) : List (Int × Int) := (B, A) :: (List.range j).map fun (i : Nat) => (A + (i : Int), A + (i : Int) + 1)
theorem cycT_succ (A B : Int) (j : Nat) : cycT A B (j + 1) = cycT A B j ++ [(A + (j : Int), A + (j : Int) + 1)] := by
  unfold cycT
  rw [List.range_succ, List.map_append]
  rfl
theorem cycT_len (A B : Int) (j : Nat) : (cycT A B j).length = j + 1 := by simp [cycT]
/-- What the model lists. -/
def flA (K : Nat) (k : Nat) : List (Int × Int) := (List.range k).flatMap fun (i : Nat) => [((i : Int), (K : Int) + (i : Int)), ((i : Int), 2 * (K : Int) + (i : Int)), ((i : Int), 3 * (K : Int) + (i : Int)), ((K : Int) + (i : Int), (K : Int) + ((i : Int) + 1) % (K : Int))]
def flB (K : Nat) (k : Nat) : List (Int × Int) := (List.range k).map fun (i : Nat) => (2 * (K : Int) + (i : Int), 2 * (K : Int) + ((i : Int) + 1) % (2 * (K : Int)))
theorem flA_succ (K k : Nat) : flA K (k + 1) = flA K k ++ [((k : Int), (K : Int) + (k : Int)), ((k : Int), 2 * (K : Int) + (k : Int)), ((k : Int), 3 * (K : Int) + (k : Int)), ((K : Int) + (k : Int), (K : Int) + ((k : Int) + 1) % (K : Int))] := by
  unfold flA
  rw [List.range_succ, List.flatMap_append]
  simp
theorem flB_succ (K k : Nat) : flB K (k + 1) = flB K k ++ [(2 * (K : Int) + (k : Int), 2 * (K : Int) + ((k : Int) + 1) % (2 * (K : Int)))] := by
  unfold flB
  rw [List.range_succ, List.map_append]
  rfl
theorem flA_len (K k : Nat) : (flA K k).length = 4 * k := by
  induction k with
  | zero => rfl
  | succ k ih => rw [flA_succ, List.length_append, ih]; simp; omega
theorem flB_len (K k : Nat) : (flB K k).length = k := by simp [flB]
def flM (K : Nat) : List (Int × Int) := flA K K ++ flB K (2 * K)
/-- What the program lists. -/
def flP (K : Nat) : List (List (Int × Int)) := [rungL K K, rungL K (2 * (K : Int)), rungL K (3 * (K : Int)), cycT K (2 * (K : Int) - 1) (K - 1), cycT (2 * (K : Int)) (4 * (K : Int) - 1) (2 * K - 1)]
theorem flM_len (K : Nat) : (flM K).length = 6 * K := by unfold flM; rw [List.length_append, flA_len, flB_len]; omega
set_option maxRecDepth 100000 in
theorem fl_perm {K : Nat} (h : K = 3 ∨ K = 5) : (flP K).flatten.Perm (flM K) := by
  rcases h with rfl | rfl
  · exact List.isPerm_iff.1 (by decide)
  · exact List.isPerm_iff.1 (by decide)
set_option maxRecDepth 100000 in
theorem fl_ends {K : Nat} (h : K = 3 ∨ K = 5) : Ends (4 * (K : Int)) (flP K).flatten ∧ Cubic (4 * (K : Int)).toNat (flP K).flatten := by
  rcases h with rfl | rfl
  · exact ⟨by decide, by decide⟩
  · exact ⟨by decide, by decide⟩
def fFlowerGraph (k : Int) : Int × List (Int × Int) × Int := if k = 3 ∨ k = 5 then (4 * k, sortE (flM k.toNat), 0) else (0, [], 2)
theorem fFlowerGraph_len (k : Int) : (fFlowerGraph k).2.1.length ≤ 1048576 := by
  unfold fFlowerGraph
  by_cases h : k = 3 ∨ k = 5
  · rw [if_pos h]
    show (sortE _).length ≤ _
    rw [sortE_length, flM_len]
    omega
  · rw [if_neg h]
    simp

end Go.Proofs.Ytppkcpekknhbmaa
