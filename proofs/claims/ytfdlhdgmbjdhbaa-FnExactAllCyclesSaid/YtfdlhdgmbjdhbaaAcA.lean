/- All cycles of a graph, as lists: those that go on from a way of edges. -/
import Derived.Test.YtfdlhdgmbjdhbaaFar
namespace Go.Proofs.Ytfdlhdgmbjdhbaa
open Go.RowKit

def srtA (xs : List Int) : List Int := xs.mergeSort fun x y => decide (x ≤ y)
/-- An edge at a vertex goes on a way from the edge E, with vertices that are met. -/
def acT (es : List (Int × Int)) (E : Nat) (v : Int) (M : List Int) (e : Nat) : Bool := decide (E < e) && !decide (othE es v e ∈ v :: M)
/-- The cycles that go on from a way of edges, the first of which is E, to a vertex, with vertices that are met. -/
def acF (es : List (Int × Int)) (E : Nat) : Nat → List Int → Int → List Int → List (List Int)
  | 0, _, _, _ => []
  | r + 1, way, v, M => if v = eA es E then [srtA way] else ((onL es v).filter (acT es E v M)).flatMap fun (e : Nat) => acF es E r (way ++ [(e : Int)]) (othE es v e) (v :: M)
/-- Those that go on along some of the edges at a vertex. -/
def acU (es : List (Int × Int)) (E r : Nat) (way : List Int) (v : Int) (M : List Int) (es' : List Nat) : List (List Int) := (es'.filter (acT es E v M)).flatMap fun (e : Nat) => acF es E r (way ++ [(e : Int)]) (othE es v e) (v :: M)
theorem acF_end {es : List (Int × Int)} {E r : Nat} {way : List Int} {v : Int} {M : List Int} (h : v = eA es E) : acF es E (r + 1) way v M = [srtA way] := by unfold acF; rw [if_pos h]
theorem acF_on {es : List (Int × Int)} {E r : Nat} {way : List Int} {v : Int} {M : List Int} (h : ¬ v = eA es E) : acF es E (r + 1) way v M = acU es E r way v M (onL es v) := by unfold acF; rw [if_neg h]; rfl
theorem acU_nil (es : List (Int × Int)) (E r : Nat) (way : List Int) (v : Int) (M : List Int) : acU es E r way v M [] = [] := rfl
theorem acU_yes {es : List (Int × Int)} {E r : Nat} {way : List Int} {v : Int} {M : List Int} {l : List Nat} {e : Nat} (h : acT es E v M e = true) : acU es E r way v M (l ++ [e]) = acU es E r way v M l ++ acF es E r (way ++ [(e : Int)]) (othE es v e) (v :: M) := by
  unfold acU
  rw [List.filter_append, List.flatMap_append]
  simp [h]
theorem acU_no {es : List (Int × Int)} {E r : Nat} {way : List Int} {v : Int} {M : List Int} {l : List Nat} {e : Nat} (h : acT es E v M e = false) : acU es E r way v M (l ++ [e]) = acU es E r way v M l := by
  unfold acU
  rw [List.filter_append, List.flatMap_append]
  simp [h]

/-- A graph in which at most three edges are at each vertex. -/
def LeThree (es : List (Int × Int)) : Prop := ∀ v, (onL es v).length ≤ 3
theorem flat_le {α β : Type} (f : α → List β) (K : Nat) : ∀ l : List α, (∀ x, x ∈ l → (f x).length ≤ K) → (l.flatMap f).length ≤ l.length * K
  | [], _ => by simp
  | a :: l, h => by
    have h1 := h a (by simp)
    have h2 := flat_le f K l (fun x hx => h x (by simp [hx]))
    rw [List.flatMap_cons, List.length_append, List.length_cons, Nat.add_mul]
    omega
theorem acU_le {es : List (Int × Int)} {E r K : Nat} {way : List Int} {v : Int} {M : List Int} (hK : ∀ way v M, (acF es E r way v M).length ≤ K) (l : List Nat) : (acU es E r way v M l).length ≤ l.length * K := by
  unfold acU
  exact Nat.le_trans (flat_le _ K _ (fun x _ => hK _ _ _)) (Nat.mul_le_mul_right K (List.length_filter_le _ _))
theorem acF_le {es : List (Int × Int)} (h3 : LeThree es) (E : Nat) : ∀ (r : Nat) (way : List Int) (v : Int) (M : List Int), (acF es E r way v M).length ≤ 3 ^ r
  | 0, _, _, _ => by simp [acF]
  | r + 1, way, v, M => by
    by_cases h : v = eA es E
    · rw [acF_end h]
      exact Nat.one_le_pow _ _ (by omega)
    · rw [acF_on h]
      refine Nat.le_trans (acU_le (fun way v M => acF_le h3 E r way v M) _) ?_
      rw [Nat.pow_succ, Nat.mul_comm (3 ^ r)]
      exact Nat.mul_le_mul_right _ (h3 v)
/-- The cycles have as many edges as they have steps. -/
theorem acF_row {es : List (Int × Int)} {E : Nat} : ∀ (r : Nat) (way : List Int) (v : Int) (M : List Int) (x : List Int), x ∈ acF es E r way v M → x.length + 1 ≤ way.length + r
  | 0, _, _, _, x, hx => by simp [acF] at hx
  | r + 1, way, v, M, x, hx => by
    by_cases h : v = eA es E
    · rw [acF_end h, List.mem_singleton] at hx
      subst hx
      unfold srtA
      rw [List.length_mergeSort]
      omega
    · rw [acF_on h] at hx
      unfold acU at hx
      rw [List.mem_flatMap] at hx
      obtain ⟨e, _, he⟩ := hx
      have := acF_row r _ _ _ x he
      simp at this
      omega

/-- All cycles, by their least edges. -/
def acL (es : List (Int × Int)) (N k : Nat) : List (List Int) := (List.range k).flatMap fun i => acF es i N [(i : Int)] (eB es i) []
theorem acL_succ (es : List (Int × Int)) (N k : Nat) : acL es N (k + 1) = acL es N k ++ acF es k N [(k : Int)] (eB es k) [] := by
  unfold acL
  rw [List.range_succ, List.flatMap_append]
  simp
theorem acL_le {es : List (Int × Int)} (h3 : LeThree es) (N k : Nat) : (acL es N k).length ≤ k * 3 ^ N := by
  have h := flat_le (fun i => acF es i N [(i : Int)] (eB es i) []) (3 ^ N) (List.range k) (fun x _ => acF_le h3 x N _ _ _)
  rwa [List.length_range] at h
theorem acL_row {es : List (Int × Int)} {N k : Nat} {x : List Int} (hx : x ∈ acL es N k) : x.length ≤ N := by
  unfold acL at hx
  rw [List.mem_flatMap] at hx
  obtain ⟨i, _, h⟩ := hx
  have := acF_row N _ _ _ x h
  simp at this
  omega

/-- How many of some lists have a length. -/
def lenC (L : List (List Int)) (j : Nat) : Nat := (L.filter fun x => decide (x.length = j)).length
theorem lenC_le (L : List (List Int)) (j : Nat) : lenC L j ≤ L.length := List.length_filter_le _ _
theorem lenC_snoc (L : List (List Int)) (x : List Int) (j : Nat) : lenC (L ++ [x]) j = lenC L j + (if x.length = j then 1 else 0) := by
  unfold lenC
  rw [List.filter_append, List.length_append]
  by_cases h : x.length = j <;> simp [h]
/-- The numbers of lists by their lengths, up to N. -/
def lensL (N : Nat) (L : List (List Int)) : List Int := (List.range (N + 1)).map fun j => ((lenC L j : Nat) : Int)
theorem lensL_len (N : Nat) (L : List (List Int)) : (lensL N L).length = N + 1 := by simp [lensL]
theorem lensL_at {N j : Nat} (L : List (List Int)) (h : j ≤ N) : eI (lensL N L) j = ((lenC L j : Nat) : Int) := by
  rw [eI_lt (by rw [lensL_len]; omega)]
  simp [lensL]
theorem lensL_snoc {N : Nat} (L : List (List Int)) {x : List Int} (hx : x.length ≤ N) : lensL N (L ++ [x]) = (lensL N L).set x.length (eI (lensL N L) x.length + 1) := by
  refine List.ext_getElem (by simp [lensL]) fun j h1 h2 => ?_
  have e1 := lensL_at L hx
  obtain ⟨y, hy⟩ : ∃ y, eI (lensL N L) x.length = y := ⟨_, rfl⟩
  rw [hy] at e1
  simp only [hy]
  rw [List.getElem_set]
  subst e1
  simp only [lensL, List.getElem_map, List.getElem_range]
  rw [lenC_snoc]
  by_cases h : x.length = j
  · subst h; simp
  · simp [h]
theorem lensL_nil (N : Nat) : lensL N [] = List.replicate (N + 1) 0 := by
  refine List.ext_getElem (by simp [lensL]) fun j h1 h2 => ?_
  simp [lensL, lenC]

end Go.Proofs.Ytfdlhdgmbjdhbaa
