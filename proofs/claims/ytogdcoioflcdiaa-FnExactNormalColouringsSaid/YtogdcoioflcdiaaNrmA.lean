/- The normal colourings, one after the other, as plain lists: the first three edges have the colours 0, 1, 2, each edge behind them what fits. No program is named here. -/
import Derived.Test.YtogdcoioflcdiaaCols
namespace Go.Proofs.Ytogdcoioflcdiaa
open Go.RowKit

theorem ext_N {xs ys : List Bool} (hl : xs.length = ys.length) (h : ∀ f, f < xs.length → eL xs f = eL ys f) : xs = ys := by
  apply List.ext_getElem hl
  intro f h1 h2
  have := h f h1
  rwa [eL_lt h1, eL_lt h2] at this
/-- All ways to go on from the colours c of the first edges, r edges more. -/
def nrmF (es : List (Int × Int)) : Nat → List Int → List (List Int)
  | 0, c => [c]
  | r + 1, c => (List.range 3).flatMap fun (col : Nat) => if fitsP es c c.length col then nrmF es r (c ++ [(col : Int)]) else []
def nrmU (es : List (Int × Int)) (r : Nat) (c : List Int) (k : Nat) : List (List Int) := (List.range k).flatMap fun (col : Nat) => if fitsP es c c.length col then nrmF es r (c ++ [(col : Int)]) else []
theorem nrmF_zero (es : List (Int × Int)) (c : List Int) : nrmF es 0 c = [c] := rfl
theorem nrmF_succ (es : List (Int × Int)) (r : Nat) (c : List Int) : nrmF es (r + 1) c = nrmU es r c 3 := rfl
theorem nrmU_zero (es : List (Int × Int)) (r : Nat) (c : List Int) : nrmU es r c 0 = [] := rfl
theorem nrmU_succ (es : List (Int × Int)) (r : Nat) (c : List Int) (k : Nat) : nrmU es r c (k + 1) = nrmU es r c k ++ (if fitsP es c c.length k then nrmF es r (c ++ [(k : Int)]) else []) := by
  unfold nrmU
  rw [List.range_succ, List.flatMap_append]
  simp
theorem nrmU_yes {es : List (Int × Int)} {r : Nat} {c : List Int} {k : Nat} (h : fitsP es c c.length k) : nrmU es r c (k + 1) = nrmU es r c k ++ nrmF es r (c ++ [(k : Int)]) := by rw [nrmU_succ, if_pos h]
theorem nrmU_no {es : List (Int × Int)} {r : Nat} {c : List Int} {k : Nat} (h : ¬ fitsP es c c.length k) : nrmU es r c (k + 1) = nrmU es r c k := by rw [nrmU_succ, if_neg h, List.append_nil]
theorem nrmU_le {es : List (Int × Int)} {r : Nat} {c : List Int} {k m : Nat} (h : k ≤ m) : ∃ q, nrmU es r c m = nrmU es r c k ++ q := by
  obtain ⟨j, rfl⟩ : ∃ j, m = k + j := ⟨m - k, by omega⟩
  induction j with
  | zero => exact ⟨[], by simp⟩
  | succ j ih =>
    obtain ⟨q, hq⟩ := ih (by omega)
    rw [← Nat.add_assoc, nrmU_succ, hq]
    exact ⟨_, List.append_assoc _ _ _⟩
theorem nrmF_len {es : List (Int × Int)} : ∀ (r : Nat) (c x : List Int), x ∈ nrmF es r c → x.length = c.length + r
  | 0, c, x, h => by rw [nrmF_zero, List.mem_singleton] at h; subst h; rfl
  | r + 1, c, x, h => by
    rw [nrmF_succ] at h
    unfold nrmU at h
    obtain ⟨col, _, h2⟩ := List.mem_flatMap.1 h
    split at h2
    · have h3 := nrmF_len r _ x h2
      rw [List.length_append, List.length_singleton] at h3
      omega
    · cases h2

theorem eI_app {c : List Int} {x : Int} {j : Nat} (h : j < c.length) : eI (c ++ [x]) j = eI c j := by
  unfold eI
  rw [List.getD_eq_getElem?_getD, List.getD_eq_getElem?_getD, List.getElem?_append_left h]
theorem eI_app_last (c : List Int) (x : Int) : eI (c ++ [x]) c.length = x := by
  unfold eI
  rw [List.getD_eq_getElem?_getD, List.getElem?_append_right (Nat.le_refl _), Nat.sub_self]
  rfl
theorem hasC_app {es : List (Int × Int)} {c : List Int} {x v col : Int} {k : Nat} (h : k ≤ c.length) : hasC es (c ++ [x]) k v col ↔ hasC es c k v col := by
  constructor
  · rintro ⟨j, h1, h2, h3⟩
    exact ⟨j, h1, h2, by rw [← h3, eI_app (by omega)]⟩
  · rintro ⟨j, h1, h2, h3⟩
    exact ⟨j, h1, h2, by rw [← h3, eI_app (by omega)]⟩
theorem fits_app {es : List (Int × Int)} {c : List Int} {x col : Int} {k : Nat} (h : k ≤ c.length) : fitsP es (c ++ [x]) k col ↔ fitsP es c k col := by
  rw [fits_has, fits_has, hasC_app h, hasC_app h]
theorem takeL_app {es : List (Int × Int)} {c : List Int} {x : Int} {k : Nat} (h : k ≤ c.length) : takeL es (c ++ [x]) k = takeL es c k := by
  unfold takeL
  refine List.map_congr_left fun i _ => ?_
  rw [decide_eq_decide]
  exact hasC_app h

/-- Two marks turned over. -/
def turnB (ts : List Bool) (i j : Nat) : List Bool := (ts.set i (!(eL ts i))).set j (!(eL ts j))
theorem turnB_len (ts : List Bool) (i j : Nat) : (turnB ts i j).length = ts.length := by simp [turnB]
theorem turnB_at {ts : List Bool} {i j f : Nat} (hi : i < ts.length) (hj : j < ts.length) : eL (turnB ts i j) f = if f = j then !(eL ts j) else if f = i then !(eL ts i) else eL ts f := by
  unfold turnB
  rw [eL_set (by rw [List.length_set]; exact hj), eL_set hi]
theorem turnB_twice {ts : List Bool} {i j : Nat} (hi : i < ts.length) (hj : j < ts.length) (hij : i ≠ j) : turnB (turnB ts i j) i j = ts := by
  refine ext_N (by rw [turnB_len, turnB_len]) fun f hf => ?_
  rw [turnB_at (by rw [turnB_len]; exact hi) (by rw [turnB_len]; exact hj), turnB_at hi hj, turnB_at hi hj, turnB_at hi hj]
  by_cases h1 : f = j
  · subst h1
    rw [if_pos rfl, if_pos rfl, Bool.not_not]
  · rw [if_neg h1]
    by_cases h2 : f = i
    · subst h2
      rw [if_pos rfl, if_neg hij, if_pos rfl, Bool.not_not]
    · rw [if_neg h2, if_neg h1, if_neg h2]
theorem prefix_nrm {es : List (Int × Int)} {r : Nat} {c : List Int} {k : Nat} {q : List (List Int)} (hk : k < 3) (h : fitsP es c c.length k) (hq : q <+: nrmF es r (c ++ [(k : Int)])) : nrmU es r c k ++ q <+: nrmF es (r + 1) c := by
  rw [nrmF_succ]
  obtain ⟨z, hz⟩ := nrmU_le (es := es) (r := r) (c := c) (show k + 1 ≤ 3 by omega)
  rw [hz, nrmU_yes h]
  obtain ⟨y, hy⟩ := hq
  exact ⟨y ++ z, by rw [← hy]; simp [List.append_assoc]⟩
/-- The normal colourings of a graph with n edges. -/
def nrmL (es : List (Int × Int)) : List (List Int) := nrmF es (es.length - 3) [0, 1, 2]

end Go.Proofs.Ytogdcoioflcdiaa
