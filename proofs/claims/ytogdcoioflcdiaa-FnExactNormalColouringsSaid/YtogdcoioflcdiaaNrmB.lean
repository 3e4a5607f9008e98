/- The normal colourings as the model seeks them, from no colour on, as plain lists: at the vertex 0 only one colour is tried. No program is named here. -/
import Derived.Test.YtogdcoioflcdiaaNrmA
import Derived.Test.YtogdcoioflcdiaaNrmR
import Derived.Test.YtogdcoioflcdiaaAlikeA
namespace Go.Proofs.Ytogdcoioflcdiaa
open Go.RowKit

/-- A colour may be tried behind some first colours. -/
def okM (es : List (Int × Int)) (c : List Int) (k : Nat) : Prop := (c.length < 3 → k = c.length) ∧ fitsP es c c.length k
instance (es : List (Int × Int)) (c : List Int) (k : Nat) : Decidable (okM es c k) := by unfold okM; infer_instance
def nmF (es : List (Int × Int)) : Nat → List Int → List (List Int)
  | 0, c => [c]
  | r + 1, c => (List.range 3).flatMap fun (col : Nat) => if okM es c col then nmF es r (c ++ [(col : Int)]) else []
def nmU (es : List (Int × Int)) (r : Nat) (c : List Int) (k : Nat) : List (List Int) := (List.range k).flatMap fun (col : Nat) => if okM es c col then nmF es r (c ++ [(col : Int)]) else []
theorem nmF_zero (es : List (Int × Int)) (c : List Int) : nmF es 0 c = [c] := rfl
theorem nmF_succ (es : List (Int × Int)) (r : Nat) (c : List Int) : nmF es (r + 1) c = nmU es r c 3 := rfl
theorem nmU_zero (es : List (Int × Int)) (r : Nat) (c : List Int) : nmU es r c 0 = [] := rfl
theorem nmU_succ (es : List (Int × Int)) (r : Nat) (c : List Int) (k : Nat) : nmU es r c (k + 1) = nmU es r c k ++ (if okM es c k then nmF es r (c ++ [(k : Int)]) else []) := by
  unfold nmU
  rw [List.range_succ, List.flatMap_append]
  simp
theorem nmU_yes {es : List (Int × Int)} {r : Nat} {c : List Int} {k : Nat} (h : okM es c k) : nmU es r c (k + 1) = nmU es r c k ++ nmF es r (c ++ [(k : Int)]) := by rw [nmU_succ, if_pos h]
theorem nmU_no {es : List (Int × Int)} {r : Nat} {c : List Int} {k : Nat} (h : ¬ okM es c k) : nmU es r c (k + 1) = nmU es r c k := by rw [nmU_succ, if_neg h, List.append_nil]
theorem nmU_le {es : List (Int × Int)} {r : Nat} {c : List Int} {k m : Nat} (h : k ≤ m) : ∃ q, nmU es r c m = nmU es r c k ++ q := by
  obtain ⟨j, rfl⟩ : ∃ j, m = k + j := ⟨m - k, by omega⟩
  induction j with
  | zero => exact ⟨[], by simp⟩
  | succ j ih =>
    obtain ⟨q, hq⟩ := ih (by omega)
    rw [← Nat.add_assoc, nmU_succ, hq]
    exact ⟨_, List.append_assoc _ _ _⟩
/-- Lists with more behind them, up to a number. -/
def tkL (Ls : List (List Int)) (M : Nat) (U : List (List Int)) : List (List Int) := Ls ++ U.take (M - Ls.length)
theorem tkL_nil (Ls : List (List Int)) (M : Nat) : tkL Ls M [] = Ls := by simp [tkL]
theorem tkL_one {Ls : List (List Int)} {M : Nat} {c : List Int} (h : Ls.length < M) : tkL Ls M [c] = Ls ++ [c] := by
  unfold tkL
  rw [List.take_of_length_le (by simp; omega)]
theorem tkL_len (Ls : List (List Int)) (M : Nat) (U : List (List Int)) (h : Ls.length ≤ M) : (tkL Ls M U).length ≤ M := by
  unfold tkL
  rw [List.length_append, List.length_take]
  omega
theorem tkL_more {Ls : List (List Int)} {M : Nat} {U F : List (List Int)} (h : (tkL Ls M U).length < M) : tkL (tkL Ls M U) M F = tkL Ls M (U ++ F) := by
  unfold tkL at h ⊢
  rw [List.length_append, List.length_take] at h
  rw [List.take_of_length_le (l := U) (by omega), List.take_append, List.take_of_length_le (l := U) (by omega), List.length_append, List.append_assoc]
  congr 3
  omega
theorem tkL_full {Ls : List (List Int)} {M : Nat} {U F : List (List Int)} (h : ¬ (tkL Ls M U).length < M) : tkL Ls M (U ++ F) = tkL Ls M U := by
  unfold tkL at h ⊢
  rw [List.length_append, List.length_take] at h
  rw [List.take_append, show M - Ls.length - U.length = 0 by omega, List.take_zero, List.append_nil]
/-- The colours 0, 1 and 2 at the first three edges. -/
theorem nm_rng (es : List (Int × Int)) (r : Nat) {k : Nat} (hk : k < 3) : nmF es (r + 1) (rngI k) = nmF es r (rngI (k + 1)) := by
  have key : ∀ col : Nat, okM es (rngI k) col ↔ col = k := fun col => by
    unfold okM
    rw [rngI_len]
    constructor
    · intro h
      exact h.1 hk
    · rintro rfl
      refine ⟨fun _ => rfl, ?_⟩
      have := rngI_fits es col
      rwa [rngI_len] at this
  show (List.range 3).flatMap _ = _
  simp only [key]
  rw [rngI_succ]
  rcases (by omega : k = 0 ∨ k = 1 ∨ k = 2) with rfl | rfl | rfl <;> simp [List.range_succ]
theorem nm_rest (es : List (Int × Int)) : ∀ (r : Nat) (c : List Int), 3 ≤ c.length → nmF es r c = nrmF es r c
  | 0, _, _ => rfl
  | r + 1, c, h => by
    rw [nmF_succ, nrmF_succ]
    unfold nmU nrmU
    congr 1
    funext col
    have e : okM es c col ↔ fitsP es c c.length col := ⟨fun h => h.2, fun h2 => ⟨fun h3 => by omega, h2⟩⟩
    rw [nm_rest es r (c ++ [(col : Int)]) (by rw [List.length_append]; omega)]
    by_cases h1 : okM es c col
    · rw [if_pos h1, if_pos (e.1 h1)]
    · rw [if_neg h1, if_neg (fun h => h1 (e.2 h))]
theorem nm_nrm {s : Int} {es : List (Int × Int)} (g : IsG s es) : nmF es es.length [] = nrmL es := by
  have h1 := g.1.1.1
  have h2 := g.1.1.2.2.2
  obtain ⟨r, hr⟩ : ∃ r, es.length = r + 3 := ⟨es.length - 3, by omega⟩
  have e1 := nm_rng es (r + 2) (k := 0) (by omega)
  have e2 := nm_rng es (r + 1) (k := 1) (by omega)
  have e3 := nm_rng es r (k := 2) (by omega)
  have e0 : rngI 0 = [] := rfl
  have e4 : rngI 3 = [0, 1, 2] := rfl
  rw [e0] at e1
  rw [hr, e1, e2, e3]
  unfold nrmL
  rw [hr, nm_rest _ _ _ (by rw [e4]; decide), e4]
  rfl

end Go.Proofs.Ytogdcoioflcdiaa
