/- Edges at vertices, and colourings, as plain lists. No program is named here. -/
import Derived.Test.YtaafbdpdpndplaaOnce
namespace Go.Proofs.Ytaafbdpdpndplaa
open Go.RowKit

/-- The edge i is at the vertex v. -/
def onE (es : List (Int × Int)) (v : Int) (i : Nat) : Bool := eA es i == v || eB es i == v
/-- The edges at a vertex, of the first k ones. -/
def atU (es : List (Int × Int)) (v : Int) (k : Nat) : List Int := ((List.range k).filter (onE es v)).map fun (i : Nat) => (i : Int)
def atF (es : List (Int × Int)) (v : Int) : List Int := atU es v es.length

theorem atU_yes {es : List (Int × Int)} {v : Int} {k : Nat} (h : onE es v k = true) : atU es v (k + 1) = atU es v k ++ [(k : Int)] := by
  unfold atU
  rw [List.range_succ, List.filter_append, List.map_append]
  simp [h]
theorem atU_no {es : List (Int × Int)} {v : Int} {k : Nat} (h : onE es v k = false) : atU es v (k + 1) = atU es v k := by
  unfold atU
  rw [List.range_succ, List.filter_append, List.map_append]
  simp [h]
theorem atU_len (es : List (Int × Int)) (v : Int) (k : Nat) : (atU es v k).length ≤ k := by
  unfold atU
  rw [List.length_map]
  exact Nat.le_trans (List.length_filter_le _ _) (by simp)
theorem atU_mem {es : List (Int × Int)} {v : Int} {k : Nat} {x : Int} : x ∈ atU es v k ↔ ∃ i : Nat, i < k ∧ onE es v i = true ∧ x = i := by
  unfold atU
  simp only [List.mem_map, List.mem_filter, List.mem_range]
  constructor
  · rintro ⟨i, ⟨h1, h2⟩, rfl⟩
    exact ⟨i, h1, h2, rfl⟩
  · rintro ⟨i, h1, h2, rfl⟩
    exact ⟨i, ⟨h1, h2⟩, rfl⟩

theorem deg_at {es : List (Int × Int)} {v : Nat} (hne : ∀ i, i < es.length → eA es i ≠ eB es i) : ∀ k, k ≤ es.length → deg (es.take k) v = ((atU es v k).length : Int)
  | 0, _ => by simp [deg, atU]
  | k + 1, h => by
    rw [deg_take (by omega), deg_at hne k (by omega)]
    have hn := hne k (by omega)
    by_cases h1 : eA es k = v
    · have h2 : ¬ eB es k = v := fun e => hn (h1.trans e.symm)
      rw [atU_yes (by simp [onE, h1]), List.length_append, if_pos h1, if_neg h2]
      simp
    · by_cases h2 : eB es k = v
      · rw [atU_yes (by simp [onE, h2]), List.length_append, if_neg h1, if_pos h2]
        simp
      · rw [atU_no (by simp [onE, h1, h2]), if_neg h1, if_neg h2]
        simp

theorem isG_ne {s : Int} {es : List (Int × Int)} (h : IsG s es) {i : Nat} (hi : i < es.length) : eA es i ≠ eB es i := (h.1.2 i hi).2.2.2.2

theorem atF_three {s : Int} {es : List (Int × Int)} (h : IsG s es) {v : Int} (h0 : 0 ≤ v) (hv : v < s) : (atF es v).length = 3 := by
  obtain ⟨V, rfl⟩ : ∃ V : Nat, v = V := ⟨_, (Int.toNat_of_nonneg h0).symm⟩
  have h1 := h.2.1 V (by omega)
  have h2 := deg_at (es := es) (v := V) (fun i hi => isG_ne h hi) es.length (Nat.le_refl _)
  rw [List.take_length, h1] at h2
  unfold atF
  omega

theorem atF_lt {es : List (Int × Int)} {v : Int} {i : Nat} (hi : i < (atF es v).length) : ∃ j : Nat, j < es.length ∧ onE es v j = true ∧ eI (atF es v) i = j := by
  have h := List.getElem_mem hi
  rw [← eI_lt hi] at h
  obtain ⟨j, h1, h2, h3⟩ := atU_mem.1 (show eI (atF es v) i ∈ atU es v es.length from h)
  exact ⟨j, h1, h2, h3⟩

theorem atF_has {es : List (Int × Int)} {v : Int} {j : Nat} (hj : j < es.length) (h : onE es v j = true) : ∃ i, i < (atF es v).length ∧ eI (atF es v) i = j := by
  have h1 : (j : Int) ∈ atF es v := atU_mem.2 ⟨j, hj, h, rfl⟩
  obtain ⟨i, hi, e⟩ := List.getElem_of_mem h1
  exact ⟨i, hi, by rw [eI_lt hi, e]⟩

/-- The edge e, which has the ends a and b, may have a colour, by the edges with lesser numbers. -/
def fitsP (es : List (Int × Int)) (c : List Int) (e : Nat) (col : Int) : Prop := ∀ j, j < e → (onE es (eA es e) j = true ∨ onE es (eB es e) j = true) → eI c j ≠ col
instance (es : List (Int × Int)) (c : List Int) (e : Nat) (col : Int) : Decidable (fitsP es c e col) := by unfold fitsP; infer_instance
def okCol (es : List (Int × Int)) (c : List Int) (e : Nat) : Prop := (0 ≤ eI c e ∧ eI c e < 3) ∧ fitsP es c e (eI c e)
instance (es : List (Int × Int)) (c : List Int) (e : Nat) : Decidable (okCol es c e) := by unfold okCol; infer_instance
def isColP (es : List (Int × Int)) (c : List Int) : Prop := c.length = es.length ∧ ∀ e, e < es.length → okCol es c e
instance (es : List (Int × Int)) (c : List Int) : Decidable (isColP es c) := by unfold isColP; infer_instance

/-- A vertex has a colour among the first k edges. -/
def hasC (es : List (Int × Int)) (c : List Int) (k : Nat) (v : Int) (col : Int) : Prop := ∃ j, j < k ∧ onE es v j = true ∧ eI c j = col
instance (es : List (Int × Int)) (c : List Int) (k : Nat) (v : Int) (col : Int) : Decidable (hasC es c k v col) := by unfold hasC; infer_instance

theorem fits_has {es : List (Int × Int)} {c : List Int} {e : Nat} {col : Int} : fitsP es c e col ↔ ¬ hasC es c e (eA es e) col ∧ ¬ hasC es c e (eB es e) col := by
  constructor
  · intro h
    exact ⟨fun ⟨j, h1, h2, h3⟩ => h j h1 (.inl h2) h3, fun ⟨j, h1, h2, h3⟩ => h j h1 (.inr h2) h3⟩
  · rintro ⟨h1, h2⟩ j hj (h | h) e
    · exact h1 ⟨j, hj, h, e⟩
    · exact h2 ⟨j, hj, h, e⟩

theorem hasC_succ {es : List (Int × Int)} {c : List Int} {k : Nat} {v col : Int} : hasC es c (k + 1) v col ↔ hasC es c k v col ∨ ((eA es k = v ∨ eB es k = v) ∧ eI c k = col) := by
  constructor
  · rintro ⟨j, h1, h2, h3⟩
    rcases Nat.lt_or_ge j k with h | h
    · exact .inl ⟨j, h, h2, h3⟩
    · obtain rfl : j = k := by omega
      refine .inr ⟨?_, h3⟩
      simpa [onE] using h2
  · rintro (⟨j, h1, h2, h3⟩ | ⟨h1, h2⟩)
    · exact ⟨j, by omega, h2, h3⟩
    · exact ⟨k, by omega, by simpa [onE] using h1, h2⟩

/-- The marks that tell for each of 20 vertices which of three colours its edges have. -/
def takeL (es : List (Int × Int)) (c : List Int) (k : Nat) : List Bool := (List.range 60).map fun (i : Nat) => decide (hasC es c k ((i / 3 : Nat) : Int) ((i % 3 : Nat) : Int))
theorem takeL_length (es : List (Int × Int)) (c : List Int) (k : Nat) : (takeL es c k).length = 60 := by simp [takeL]
theorem takeL_at {es : List (Int × Int)} {c : List Int} {k V C : Nat} (hV : V < 20) (hC : C < 3) : eL (takeL es c k) (V * 3 + C) = decide (hasC es c k V C) := by
  have h1 : (V * 3 + C) / 3 = V := by omega
  have h2 : (V * 3 + C) % 3 = C := by omega
  rw [eL_lt (by rw [takeL_length]; omega)]
  unfold takeL
  simp only [List.getElem_map, List.getElem_range, h1, h2]
theorem takeL_zero (es : List (Int × Int)) (c : List Int) : takeL es c 0 = List.replicate 60 false := by
  refine List.eq_replicate_iff.2 ⟨takeL_length _ _ _, fun b hb => ?_⟩
  obtain ⟨i, _, rfl⟩ := List.mem_map.1 hb
  exact decide_eq_false (fun ⟨j, h, _⟩ => by omega)
theorem takeL_step {es : List (Int × Int)} {c : List Int} {k X Y C : Nat} (hX : eA es k = X) (hY : eB es k = Y) (hC : eI c k = C) (hC2 : C < 3) :
    ((takeL es c k).set (X * 3 + C) true).set (Y * 3 + C) true = takeL es c (k + 1) := by
  refine List.ext_getElem (by simp [takeL_length]) fun i h1 h2 => ?_
  have hi : i < 60 := by rw [takeL_length] at h2; exact h2
  rw [List.getElem_set, List.getElem_set]
  have key : (takeL es c (k + 1))[i]'h2 = decide (hasC es c (k + 1) ((i / 3 : Nat) : Int) ((i % 3 : Nat) : Int)) := by simp [takeL]
  have key2 : (takeL es c k)[i]'(by rw [takeL_length]; exact hi) = decide (hasC es c k ((i / 3 : Nat) : Int) ((i % 3 : Nat) : Int)) := by simp [takeL]
  rw [key, key2]
  by_cases e1 : Y * 3 + C = i
  · rw [if_pos e1]
    have h : hasC es c (k + 1) ((i / 3 : Nat) : Int) ((i % 3 : Nat) : Int) := hasC_succ.2 (.inr ⟨.inr (by rw [hY]; omega), by rw [hC]; omega⟩)
    rw [decide_eq_true h]
  · rw [if_neg e1]
    by_cases e2 : X * 3 + C = i
    · rw [if_pos e2]
      have h : hasC es c (k + 1) ((i / 3 : Nat) : Int) ((i % 3 : Nat) : Int) := hasC_succ.2 (.inr ⟨.inl (by rw [hX]; omega), by rw [hC]; omega⟩)
      rw [decide_eq_true h]
    · rw [if_neg e2]
      have h : hasC es c (k + 1) ((i / 3 : Nat) : Int) ((i % 3 : Nat) : Int) ↔ hasC es c k ((i / 3 : Nat) : Int) ((i % 3 : Nat) : Int) := by
        rw [hasC_succ, hX, hY, hC]
        constructor
        · rintro (h | ⟨h, h'⟩)
          · exact h
          · omega
        · exact .inl
      by_cases h3 : hasC es c k ((i / 3 : Nat) : Int) ((i % 3 : Nat) : Int)
      · rw [decide_eq_true h3, decide_eq_true (h.2 h3)]
      · rw [decide_eq_false h3, decide_eq_false (fun e => h3 (h.1 e))]

def fIsColouring (s : Int) (es : List (Int × Int)) (c : List Int) : Bool × Int := if IsG s es then (decide (isColP es c), 0) else (false, 1)

end Go.Proofs.Ytaafbdpdpndplaa
