/- Colourings that are alike: the names of colours by the edges at the first vertex, as plain lists. -/
import Derived.Test.YtogdcoioflcdiaaCols
namespace Go.Proofs.Ytogdcoioflcdiaa
open Go.RowKit

theorem eA_nonneg {s : Int} {es : List (Int × Int)} (h : IsG s es) {i : Nat} (hi : i < es.length) : 0 ≤ eA es i ∧ eA es i < eB es i := ⟨(h.1.2 i hi).1, by have := isG_ne h hi; have := (h.2.2 i hi).1; omega⟩

theorem eA_mono {s : Int} {es : List (Int × Int)} (h : IsG s es) {i : Nat} (hi : i + 1 < es.length) : eA es i ≤ eA es (i + 1) := by
  have h1 := (h.2.2 (i + 1) hi).2 (by omega)
  unfold ltE at h1
  rw [Nat.add_sub_cancel] at h1
  omega

theorem onE_zero {s : Int} {es : List (Int × Int)} (h : IsG s es) {i : Nat} (hi : i < es.length) : onE es 0 i = true ↔ eA es i = 0 := by
  have h1 := eA_nonneg h hi
  unfold onE
  simp only [Bool.or_eq_true, beq_iff_eq]
  omega

/-- The edges at the vertex 0 are the first ones. -/
theorem at_first {s : Int} {es : List (Int × Int)} (h : IsG s es) : ∀ k, k ≤ es.length → ∃ m, m ≤ k ∧ atU es 0 k = (List.range m).map (fun (i : Nat) => (i : Int)) ∧ (m < k → 0 < k ∧ onE es 0 (k - 1) = false)
  | 0, _ => ⟨0, Nat.le_refl _, rfl, fun h => by omega⟩
  | k + 1, hk => by
    obtain ⟨m, h1, h2, h3⟩ := at_first h k (by omega)
    by_cases ho : onE es 0 k = true
    · have hm : m = k := by
        rcases Nat.lt_or_ge m k with hlt | hge
        · obtain ⟨h4, h5⟩ := h3 hlt
          obtain ⟨j, rfl⟩ : ∃ j, k = j + 1 := ⟨k - 1, by omega⟩
          have h6 := (onE_zero h (by omega)).1 ho
          have h7 := eA_mono h (i := j) (by omega)
          have h8 := (eA_nonneg h (i := j) (by omega)).1
          rw [Nat.add_sub_cancel] at h5
          rw [(onE_zero h (by omega)).2 (by omega)] at h5
          cases h5
        · omega
      subst hm
      refine ⟨m + 1, Nat.le_refl _, ?_, fun h => by omega⟩
      rw [atU_yes ho, h2, List.range_succ, List.map_append]
      rfl
    · have ho' : onE es 0 k = false := by simpa using ho
      exact ⟨m, by omega, by rw [atU_no ho', h2], fun _ => ⟨by omega, ho'⟩⟩

theorem atF_first {s : Int} {es : List (Int × Int)} (h : IsG s es) : atF es 0 = [0, 1, 2] := by
  obtain ⟨m, h1, h2, _⟩ := at_first h es.length (Nat.le_refl _)
  have h3 := atF_three h (v := 0) (Int.le_refl _) (by have := h.1.1.1; omega)
  unfold atF at h3 ⊢
  rw [h2] at h3 ⊢
  obtain rfl : m = 3 := by simpa using h3
  rfl
theorem three_le {s : Int} {es : List (Int × Int)} (h : IsG s es) : 3 ≤ es.length := by
  have h1 := congrArg List.length (atF_first h)
  have h2 := atU_len es 0 es.length
  unfold atF at h1
  rw [h1] at h2
  simpa using h2

/-- The names of colours, when the first k edges have told theirs. -/
def nameL (c : List Int) : Nat → List Int
  | 0 => [0, 0, 0]
  | k + 1 => (nameL c k).set (eI c k).toNat k
theorem nameL_length (c : List Int) : ∀ k, (nameL c k).length = 3
  | 0 => rfl
  | k + 1 => by rw [nameL, List.length_set]; exact nameL_length c k
def normU (c : List Int) (k : Nat) : List Int := (c.take k).map fun x => eI (nameL c 3) x.toNat
def normL (c : List Int) : List Int := normU c c.length
theorem normU_length {c : List Int} {k : Nat} (h : k ≤ c.length) : (normU c k).length = k := by simp [normU]; omega
theorem normU_step {c : List Int} {k C : Nat} (h : k < c.length) (hC : eI c k = C) : normU c (k + 1) = normU c k ++ [eI (nameL c 3) C] := by
  unfold normU
  rw [List.take_add_one, int_at h, hC]
  simp

def fAreAlike (s : Int) (es : List (Int × Int)) (a b : List Int) : Bool × Int := if IsG s es then (if isColP es a ∧ isColP es b then (normL a == normL b, 0) else (false, 2)) else (false, 1)

end Go.Proofs.Ytogdcoioflcdiaa
