/- The matrix of a graph: what the determinant's invariants ask at the start. No program is named here. -/
import Derived.Test.YtbimllpfbgjajaaTreeA
import Derived.Test.YtbimllpfbgjajaaFar
namespace Go.Proofs.Ytbimllpfbgjajaa
open Go.RowKit

/-- How many edges join two vertices. -/
def joinT (es : List (Int × Int)) (v w : Int) : Nat := ((onL es v).filter fun e => othE es v e == w).length
theorem joinT_sym (es : List (Int × Int)) (v w : Int) : joinT es v w = joinT es w v := by
  unfold joinT onL
  rw [List.filter_filter, List.filter_filter]
  congr 1
  apply List.filter_congr
  intro e _
  unfold onE othE
  rw [Bool.eq_iff_iff]
  simp only [Bool.and_eq_true, Bool.or_eq_true, beq_iff_eq]
  omega
theorem sumT_count (f : Nat → Int) (L : List Nat) (o : Nat → Int) (i : Nat) (hf : ∀ j k, f j = f k → j = k) : ∀ r, sumR (fun l => ((L.filter fun e => o e == f l).length : Int)) i r ≤ L.length := fun r => by
  have key : ∀ (L : List Nat) , sumR (fun l => ((L.filter fun e => o e == f l).length : Int)) i r ≤ L.length := by
    intro L
    induction L with
    | nil =>
      have h := sumR_zero i r
      simp only [List.filter_nil, List.length_nil] at h ⊢
      exact Int.le_of_eq h
    | cons e L ih =>
      by_cases he : ∃ k, o e = f k
      · obtain ⟨k, hk⟩ := he
        have h1 : sumR (fun l => (((e :: L).filter fun e => o e == f l).length : Int)) i r = sumR (fun l => (fun l => ((L.filter fun e => o e == f l).length : Int)) l - (fun l => if l = k then (-1 : Int) else 0) l) i r := sumR_congr r (fun l _ _ => by
          dsimp only
          by_cases h2 : l = k
          · subst h2
            rw [if_pos rfl, List.filter_cons_of_pos (by simpa using hk), List.length_cons]
            omega
          · rw [if_neg h2, List.filter_cons_of_neg (by simpa using fun h3 => h2 (hf _ _ (by rw [← h3]; exact hk)))]
            omega)
        rw [h1, sumR_sub, sumR_at, List.length_cons]
        split <;> omega
      · have h1 : sumR (fun l => (((e :: L).filter fun e => o e == f l).length : Int)) i r = sumR (fun l => ((L.filter fun e => o e == f l).length : Int)) i r := sumR_congr r (fun l _ _ => by
          rw [List.filter_cons_of_neg (by simpa using fun h3 => he ⟨l, h3⟩)])
        rw [h1, List.length_cons]
        omega
  exact key L

/-- The matrix of all vertices but 0. -/
def matT (es : List (Int × Int)) (k l : Nat) : Int := if l = k then 3 else -(joinT es ((k : Int) + 1) ((l : Int) + 1) : Int)

theorem matT_inv {N : Nat} {es : List (Int × Int)} (h3 : ∀ v : Nat, v < N → (onL es (v : Int)).length ≤ 3) : TInv (N - 1) 0 1 (matT es) := by
  refine ⟨by decide, by decide, ?_, ?_, ?_, ?_⟩
  · intro k l _ _ _ _
    unfold matT
    by_cases e : l = k
    · subst e; rfl
    · rw [if_neg e, if_neg (fun e' => e e'.symm), joinT_sym es]
  · intro k l _ _ _ _ e
    unfold matT
    rw [if_neg (fun e' => e e'.symm)]
    omega
  · intro k _ hk
    have h1 := sumT_count (fun (l : Nat) => (l : Int) + 1) (onL es ((k : Int) + 1)) (othE es ((k : Int) + 1)) 0 (fun j k h => by omega) (N - 1 - 0)
    have h2 := h3 (k + 1) (by omega)
    rw [show ((k + 1 : Nat) : Int) = (k : Int) + 1 by omega] at h2
    have h4 : sumR (fun l => (fun l => if l = k then (3 : Int) else 0) l - (fun (l : Nat) => (((onL es ((k : Int) + 1)).filter fun e => othE es ((k : Int) + 1) e == (l : Int) + 1).length : Int)) l) 0 (N - 1 - 0) ≤ sumR (matT es k) 0 (N - 1 - 0) := sumR_mono _ (fun l _ _ => by
      unfold matT joinT
      dsimp only
      by_cases e : l = k
      · rw [if_pos e, if_pos e]
        omega
      · rw [if_neg e, if_neg e]
        omega)
    rw [sumR_sub, sumR_at, if_pos (by omega)] at h4
    omega
  · intro k _ _
    unfold matT
    rw [if_pos rfl]
    decide

end Go.Proofs.Ytbimllpfbgjajaa
