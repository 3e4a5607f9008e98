/- Matchings as plain lists: which vertices are met by the first edges of a list. No program is named here. -/
import Derived.Test.YtpadnliebimceaaCutA
namespace Go.Proofs.Ytpadnliebimceaa
open Go.RowKit

/-- The vertex v is on one of the first k edges of a list. -/
def metV (es : List (Int × Int)) (xs : List Int) (k : Nat) (v : Int) : Bool := (List.range k).any fun j => onE es v (eI xs j).toNat
/-- The edge at the place i of a list has no vertex of an edge before it. -/
def okMat (es : List (Int × Int)) (xs : List Int) (i : Nat) : Prop := metV es xs i (eA es (eI xs i).toNat) = false ∧ metV es xs i (eB es (eI xs i).toNat) = false
instance (es : List (Int × Int)) (xs : List Int) (i : Nat) : Decidable (okMat es xs i) := by unfold okMat; infer_instance
def isMatP (s : Int) (es : List (Int × Int)) (xs : List Int) : Prop := 2 * (xs.length : Int) = s ∧ isSetP es.length xs ∧ ∀ i, i < xs.length → okMat es xs i
instance (s : Int) (es : List (Int × Int)) (xs : List Int) : Decidable (isMatP s es xs) := by unfold isMatP; infer_instance
def fIsMatching (s : Int) (es : List (Int × Int)) (xs : List Int) : Bool × Int := if IsG s es then (decide (isMatP s es xs), 0) else (false, 1)

def metL (es : List (Int × Int)) (xs : List Int) (M k : Nat) : List Bool := (List.range M).map fun (v : Nat) => metV es xs k (v : Int)
theorem metV_succ (es : List (Int × Int)) (xs : List Int) (k : Nat) (v : Int) : metV es xs (k + 1) v = (metV es xs k v || onE es v (eI xs k).toNat) := by
  unfold metV
  rw [List.range_succ, List.any_append]
  simp
theorem metL_len (es : List (Int × Int)) (xs : List Int) (M k : Nat) : (metL es xs M k).length = M := by simp [metL]
theorem metL_at {es : List (Int × Int)} {xs : List Int} {M k v : Nat} (hv : v < M) : eL (metL es xs M k) v = metV es xs k v := by
  unfold metL
  rw [eL_lt (by simpa using hv)]
  simp
theorem metL_zero (es : List (Int × Int)) (xs : List Int) (M : Nat) : metL es xs M 0 = List.replicate M false := by
  unfold metL
  apply List.ext_getElem
  · simp
  · intro i h1 h2
    simp [metV]
theorem eL_get {xs : List Bool} {i : Nat} (h : i < xs.length) : xs[i] = eL xs i := (eL_lt h).symm
theorem metL_step {es : List (Int × Int)} {xs : List Int} {M k X Y : Nat} (hX : eA es (eI xs k).toNat = X) (hY : eB es (eI xs k).toNat = Y) (hXM : X < M) (hYM : Y < M) :
    ((metL es xs M k).set X true).set Y true = metL es xs M (k + 1) := by
  apply List.ext_getElem
  · simp [metL_len]
  · intro i h1 h2
    have hi : i < M := by rw [metL_len] at h2; exact h2
    rw [eL_get h1, eL_get h2, eL_set (by rw [List.length_set, metL_len]; exact hYM), eL_set (by rw [metL_len]; exact hXM), metL_at hi, metL_at hi, metV_succ]
    unfold onE
    rw [hX, hY]
    by_cases a : i = Y
    · subst a; simp
    · by_cases b : i = X
      · subst b; simp
      · have a' : ¬ (Y : Int) = (i : Int) := by omega
        have b' : ¬ (X : Int) = (i : Int) := by omega
        simp [a, b, a', b']

/-- The ends of an edge, by number. -/
def endM (es : List (Int × Int)) (e k : Nat) : Int := if k = 0 then eA es e else eB es e
/-- The marks while the edge at the place i is looked at: k of its ends are met already. -/
def halfL (es : List (Int × Int)) (xs : List Int) (M i k : Nat) : List Bool := if k = 0 then metL es xs M i else if k = 1 then (metL es xs M i).set (eA es (eI xs i).toNat).toNat true else metL es xs M (i + 1)
theorem halfL_len (es : List (Int × Int)) (xs : List Int) (M i k : Nat) : (halfL es xs M i k).length = M := by
  unfold halfL
  split
  · exact metL_len _ _ _ _
  · split
    · rw [List.length_set, metL_len]
    · exact metL_len _ _ _ _
theorem halfL_step {es : List (Int × Int)} {xs : List Int} {M i k V : Nat} (hk : k < 2) (hV : endM es (eI xs i).toNat k = V) (hVM : V < M) (ha : 0 ≤ eA es (eI xs i).toNat ∧ eA es (eI xs i).toNat < M) : (halfL es xs M i k).set V true = halfL es xs M i (k + 1) := by
  rcases (by omega : k = 0 ∨ k = 1) with rfl | rfl
  · have hV' : eA es (eI xs i).toNat = V := hV
    show (metL es xs M i).set V true = (metL es xs M i).set (eA es (eI xs i).toNat).toNat true
    rw [hV', Int.toNat_natCast]
  · have hV' : eB es (eI xs i).toNat = V := hV
    show ((metL es xs M i).set (eA es (eI xs i).toNat).toNat true).set V true = metL es xs M (i + 1)
    exact metL_step (by omega) hV' (by omega) hVM
theorem halfL_at {es : List (Int × Int)} {xs : List Int} {M i k V : Nat} (hk : k < 2) (hV : endM es (eI xs i).toNat k = V) (hVM : V < M) (ha : 0 ≤ eA es (eI xs i).toNat ∧ eA es (eI xs i).toNat < M) (hne : eA es (eI xs i).toNat ≠ eB es (eI xs i).toNat) : eL (halfL es xs M i k) V = metV es xs i V := by
  rcases (by omega : k = 0 ∨ k = 1) with rfl | rfl
  · exact metL_at hVM
  · have hV' : eB es (eI xs i).toNat = V := hV
    show eL ((metL es xs M i).set (eA es (eI xs i).toNat).toNat true) V = _
    rw [eL_set (by rw [metL_len]; omega), if_neg (by omega)]
    exact metL_at hVM
theorem okMat_ends {es : List (Int × Int)} {xs : List Int} {i : Nat} (h : ∀ k, k < 2 → metV es xs i (endM es (eI xs i).toNat k) = false) : okMat es xs i := ⟨h 0 (by omega), h 1 (by omega)⟩
theorem okMat_not {es : List (Int × Int)} {xs : List Int} {i k : Nat} (hk : k < 2) (h : metV es xs i (endM es (eI xs i).toNat k) = true) : ¬ okMat es xs i := fun hf => by
  rcases (by omega : k = 0 ∨ k = 1) with rfl | rfl
  · have h1 := hf.1
    rw [show eA es (eI xs i).toNat = endM es (eI xs i).toNat 0 from rfl, h] at h1
    exact absurd h1 (by decide)
  · have h1 := hf.2
    rw [show eB es (eI xs i).toNat = endM es (eI xs i).toNat 1 from rfl, h] at h1
    exact absurd h1 (by decide)

end Go.Proofs.Ytpadnliebimceaa
