/- What is left of edges if some are left out, as plain lists; edge cuts. No program is named here. -/
import Derived.Test.YtfdlhdgmbjdhbaaCutA
import Derived.Test.YtfdlhdgmbjdhbaaLead
namespace Go.Proofs.Ytfdlhdgmbjdhbaa
open Go.RowKit

def outB (xs : List Int) (i : Nat) : Bool := decide ((i : Int) ∈ xs)
def restU (es : List (Int × Int)) (xs : List Int) (k : Nat) : List (Int × Int) := ((List.range k).filter fun i => !outB xs i).map fun i => (eA es i, eB es i)
def restE (es : List (Int × Int)) (xs : List Int) : List (Int × Int) := restU es xs es.length
theorem restU_yes {es : List (Int × Int)} {xs : List Int} {k : Nat} (h : outB xs k = false) : restU es xs (k + 1) = restU es xs k ++ [(eA es k, eB es k)] := by
  unfold restU
  rw [List.range_succ, List.filter_append, List.map_append]
  simp [h]
theorem restU_no {es : List (Int × Int)} {xs : List Int} {k : Nat} (h : outB xs k = true) : restU es xs (k + 1) = restU es xs k := by
  unfold restU
  rw [List.range_succ, List.filter_append, List.map_append]
  simp [h]
theorem restU_len (es : List (Int × Int)) (xs : List Int) (k : Nat) : (restU es xs k).length ≤ k := by
  unfold restU
  rw [List.length_map]
  exact Nat.le_trans (List.length_filter_le _ _) (by simp)
theorem rest_at {es : List (Int × Int)} {xs : List Int} {i : Nat} (h : i < (restE es xs).length) : ∃ j, j < es.length ∧ eA (restE es xs) i = eA es j ∧ eB (restE es xs) i = eB es j := by
  rw [eA_lt h, eB_lt h]
  have hm := List.getElem_mem h
  unfold restE restU at hm
  obtain ⟨j, hj, e⟩ := List.mem_map.1 hm
  refine ⟨j, List.mem_range.1 (List.mem_filter.1 hj).1, ?_⟩
  have e' : (restE es xs)[i] = (eA es j, eB es j) := e.symm
  rw [e']
  exact ⟨rfl, rfl⟩
theorem rest_ends {N : Nat} {es : List (Int × Int)} {xs : List Int} (he : EndsIn N es) : EndsIn N (restE es xs) := fun i hi => by
  obtain ⟨j, hj, h1, h2⟩ := rest_at hi
  rw [h1, h2]
  exact he j hj
theorem rest_ne {es : List (Int × Int)} {xs : List Int} (h : ∀ i, i < es.length → eA es i ≠ eB es i) : ∀ i, i < (restE es xs).length → eA (restE es xs) i ≠ eB (restE es xs) i := fun i hi => by
  obtain ⟨j, hj, h1, h2⟩ := rest_at hi
  rw [h1, h2]
  exact h j hj

theorem set_mono {n : Int} {xs : List Int} (h : isSetP n xs) {i : Nat} : ∀ d, i + (d + 1) < xs.length → eI xs i < eI xs (i + (d + 1))
  | 0 => fun hd => by
    have := (h (i + 1) hd).2 (by omega)
    simpa using this
  | d + 1 => fun hd => by
    have h1 := set_mono h d (i := i) (by omega)
    have h2 := (h (i + (d + 1 + 1)) hd).2 (by omega)
    rw [show i + (d + 1 + 1) - 1 = i + (d + 1) by omega] at h2
    omega

/-- The place in an ascending list behind the numbers less than e. -/
def AtI (xs : List Int) (e a : Nat) : Prop := a ≤ xs.length ∧ (∀ i, i < a → eI xs i < e) ∧ ∀ i, a ≤ i → i < xs.length → (e : Int) ≤ eI xs i
theorem atI_zero {n : Int} {xs : List Int} (h : isSetP n xs) : AtI xs 0 0 := ⟨Nat.zero_le _, fun i hi => by omega, fun i _ hi => by have := (h i hi).1.1; omega⟩
theorem AtI.hit {n : Int} {xs : List Int} (hs : isSetP n xs) {e a : Nat} (h : AtI xs e a) (ha : a < xs.length) (hx : eI xs a = e) : AtI xs (e + 1) (a + 1) ∧ outB xs e = true := by
  refine ⟨⟨by omega, fun i hi => ?_, fun i hi hl => ?_⟩, ?_⟩
  · rcases Nat.lt_or_ge i a with h1 | h1
    · have := h.2.1 i h1; omega
    · obtain rfl : i = a := by omega
      omega
  · have := set_mono hs (i := a) (i - a - 1) (by omega)
    rw [show a + (i - a - 1 + 1) = i by omega] at this
    omega
  · unfold outB
    refine decide_eq_true ?_
    rw [← hx, eI_lt ha]
    exact List.getElem_mem ha
theorem AtI.miss {n : Int} {xs : List Int} (hs : isSetP n xs) {e a : Nat} (h : AtI xs e a) (hx : a < xs.length → eI xs a ≠ e) : AtI xs (e + 1) a ∧ outB xs e = false := by
  have h1 : ∀ i, a ≤ i → i < xs.length → ((e + 1 : Nat) : Int) ≤ eI xs i := fun i hi hl => by
    have h2 := h.2.2 a (Nat.le_refl _) (by omega)
    have h3 := hx (by omega)
    rcases Nat.lt_or_ge a i with h4 | h4
    · have := set_mono hs (i := a) (i - a - 1) (by omega)
      rw [show a + (i - a - 1 + 1) = i by omega] at this
      omega
    · obtain rfl : i = a := by omega
      omega
  refine ⟨⟨h.1, fun i hi => by have := h.2.1 i hi; omega, h1⟩, ?_⟩
  unfold outB
  refine decide_eq_false fun hm => ?_
  obtain ⟨j, hj, ej⟩ := List.getElem_of_mem hm
  rw [← eI_lt hj] at ej
  rcases Nat.lt_or_ge j a with h2 | h2
  · have := h.2.1 j h2; omega
  · have := h1 j h2 hj; omega

def cutE (N : Nat) (es : List (Int × Int)) (xs : List Int) : Bool := decide (numP N es < numP N (restE es xs))
def fIsEdgeCut (s : Int) (es : List (Int × Int)) (xs : List Int) : Bool × Int := if IsG s es then (if isSetP es.length xs then (cutE s.toNat es xs, 0) else (false, 2)) else (false, 1)

end Go.Proofs.Ytfdlhdgmbjdhbaa
