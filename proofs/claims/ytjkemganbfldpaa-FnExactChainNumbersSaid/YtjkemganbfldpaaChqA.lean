/- How many chains of two colours a colouring has, as plain lists: each chain is counted at its first edge. No program is named here. -/
import Derived.Test.YtjkemganbfldpaaChnB
import Derived.Test.YtjkemganbfldpaaLawsD
namespace Go.Proofs.Ytjkemganbfldpaa
open Go.RowKit

theorem ext_B {xs ys : List Bool} (hl : xs.length = ys.length) (h : ∀ f, f < xs.length → eL xs f = eL ys f) : xs = ys := by
  apply List.ext_getElem hl
  intro f h1 h2
  have := h f h1
  rwa [eL_lt h1, eL_lt h2] at this

/-- Marks, and at the first k places what another list marks too. -/
def orM (ms xs : List Bool) (k : Nat) : List Bool := (List.range ms.length).map fun f => eL ms f || (decide (f < k) && eL xs f)
theorem orM_len (ms xs : List Bool) (k : Nat) : (orM ms xs k).length = ms.length := by simp [orM]
theorem orM_at {ms xs : List Bool} {k f : Nat} (hf : f < ms.length) : eL (orM ms xs k) f = (eL ms f || (decide (f < k) && eL xs f)) := by
  rw [eL_lt (by rw [orM_len]; exact hf)]
  simp [orM]
theorem orM_zero (ms xs : List Bool) : orM ms xs 0 = ms := by
  refine ext_B (orM_len _ _ _) fun f hf => ?_
  rw [orM_len] at hf
  rw [orM_at hf]
  simp
theorem orM_step {ms xs : List Bool} {k : Nat} (hk : k < ms.length) : (orM ms xs k).set k (eL ms k || eL xs k) = orM ms xs (k + 1) := by
  refine ext_B (by rw [List.length_set, orM_len, orM_len]) fun f hf => ?_
  rw [List.length_set, orM_len] at hf
  rw [eL_set (by rw [orM_len]; exact hk), orM_at hf, orM_at hf]
  by_cases e : f = k
  · subst e
    simp
  · rw [if_neg e]
    have : decide (f < k) = decide (f < k + 1) := by
      rcases Nat.lt_or_ge f k with h | h
      · rw [decide_eq_true h, decide_eq_true (by omega)]
      · rw [decide_eq_false (by omega), decide_eq_false (by omega)]
    rw [this]
/-- Marks, and what the first k numbers of a list name. -/
def mkM (ms : List Bool) (L : List Int) (k : Nat) : List Bool := (List.range ms.length).map fun (f : Nat) => eL ms f || decide ((f : Int) ∈ L.take k)
theorem mkM_len (ms : List Bool) (L : List Int) (k : Nat) : (mkM ms L k).length = ms.length := by simp [mkM]
theorem mkM_at {ms : List Bool} {L : List Int} {k f : Nat} (hf : f < ms.length) : eL (mkM ms L k) f = (eL ms f || decide ((f : Int) ∈ L.take k)) := by
  rw [eL_lt (by rw [mkM_len]; exact hf)]
  simp [mkM]
theorem mkM_zero (ms : List Bool) (L : List Int) : mkM ms L 0 = ms := by
  refine ext_B (mkM_len _ _ _) fun f hf => ?_
  rw [mkM_len] at hf
  rw [mkM_at hf]
  simp
theorem mkM_step {ms : List Bool} {L : List Int} {k X : Nat} (hk : k < L.length) (hX : eI L k = X) (hXl : X < ms.length) : (mkM ms L k).set X true = mkM ms L (k + 1) := by
  refine ext_B (by rw [List.length_set, mkM_len, mkM_len]) fun f hf => ?_
  rw [List.length_set, mkM_len] at hf
  rw [eL_set (by rw [mkM_len]; exact hXl), mkM_at hf, mkM_at hf, List.take_add_one, List.getElem?_eq_getElem hk]
  have hx : L[k] = (X : Int) := by rw [← eI_lt hk]; exact hX
  by_cases e : f = X
  · subst e
    rw [if_pos rfl]
    simp [hx]
  · rw [if_neg e]
    have : ¬ (f : Int) = (X : Int) := by omega
    simp [hx, this]

section
variable {s : Int} {es : List (Int × Int)} {cs : List Int}
theorem chU_mem {d : Int} {e k f : Nat} : (f : Int) ∈ chU es cs d e k ↔ f < k ∧ chB es cs d e f = true := by
  unfold chU
  simp only [List.mem_map, List.mem_filter, List.mem_range]
  constructor
  · rintro ⟨i, h, hi⟩
    have : i = f := by omega
    subst this
    exact h
  · intro h
    exact ⟨f, h, rfl⟩
theorem mkM_end {ms : List Bool} {d : Int} {e k : Nat} (hm : ms.length = es.length) (hk : (chU es cs d e es.length).length ≤ k) : mkM ms (chU es cs d e es.length) k = orM ms (chM es cs d e) es.length := by
  refine ext_B (by rw [mkM_len, orM_len]) fun f hf => ?_
  rw [mkM_len] at hf
  rw [mkM_at hf, orM_at hf, List.take_of_length_le hk, chM_at (by omega), decide_eq_true (show f < es.length by omega), Bool.true_and]
  congr 1
  rw [Bool.eq_iff_iff, decide_eq_true_eq, chU_mem]
  exact ⟨fun h => h.2, fun h => ⟨by omega, h⟩⟩

/-- Edge by edge: what is marked, and the edges that stand first in their chains. -/
def chqS (es : List (Int × Int)) (cs : List Int) (a b : Int) : Nat → List Bool × List Nat
  | 0 => (List.replicate es.length false, [])
  | e + 1 => if eI cs e = a ∧ eL (chqS es cs a b e).1 e = false then (orM (chqS es cs a b e).1 (chM es cs (a + b) e) es.length, (chqS es cs a b e).2 ++ [e]) else chqS es cs a b e
def chqM (es : List (Int × Int)) (cs : List Int) (a b : Int) (k : Nat) : List Bool := (chqS es cs a b k).1
def chqE (es : List (Int × Int)) (cs : List Int) (a b : Int) (k : Nat) : List Nat := (chqS es cs a b k).2
theorem chqM_zero (a b : Int) : chqM es cs a b 0 = List.replicate es.length false := rfl
theorem chqE_zero (a b : Int) : chqE es cs a b 0 = [] := rfl
theorem chqM_yes {a b : Int} {e : Nat} (h1 : eI cs e = a) (h2 : eL (chqM es cs a b e) e = false) : chqM es cs a b (e + 1) = orM (chqM es cs a b e) (chM es cs (a + b) e) es.length := by
  unfold chqM at h2 ⊢
  rw [chqS, if_pos ⟨h1, h2⟩]
theorem chqE_yes {a b : Int} {e : Nat} (h1 : eI cs e = a) (h2 : eL (chqM es cs a b e) e = false) : chqE es cs a b (e + 1) = chqE es cs a b e ++ [e] := by
  unfold chqM at h2
  unfold chqE
  rw [chqS, if_pos ⟨h1, h2⟩]
theorem chqS_no {a b : Int} {e : Nat} (h : ¬ (eI cs e = a ∧ eL (chqM es cs a b e) e = false)) : chqS es cs a b (e + 1) = chqS es cs a b e := by
  unfold chqM at h
  rw [chqS, if_neg h]
theorem chqM_no {a b : Int} {e : Nat} (h : ¬ (eI cs e = a ∧ eL (chqM es cs a b e) e = false)) : chqM es cs a b (e + 1) = chqM es cs a b e := by
  unfold chqM
  rw [chqS_no (by unfold chqM at h; exact h)]
theorem chqE_no {a b : Int} {e : Nat} (h : ¬ (eI cs e = a ∧ eL (chqM es cs a b e) e = false)) : chqE es cs a b (e + 1) = chqE es cs a b e := by
  unfold chqE
  rw [chqS_no h]
theorem chqM_len (a b : Int) : ∀ k, (chqM es cs a b k).length = es.length
  | 0 => by rw [chqM_zero]; simp
  | k + 1 => by
    by_cases h : eI cs k = a ∧ eL (chqM es cs a b k) k = false
    · rw [chqM_yes h.1 h.2, orM_len]; exact chqM_len a b k
    · rw [chqM_no h]; exact chqM_len a b k
theorem chqE_len (a b : Int) : ∀ k, (chqE es cs a b k).length ≤ k
  | 0 => by rw [chqE_zero]; simp
  | k + 1 => by
    have ih := chqE_len a b k
    by_cases h : eI cs k = a ∧ eL (chqM es cs a b k) k = false
    · rw [chqE_yes h.1 h.2, List.length_append, List.length_singleton]; omega
    · rw [chqE_no h]; omega
theorem chqE_lt {a b : Int} {k m : Nat} (hk : k < m) (h1 : eI cs k = a) (h2 : eL (chqM es cs a b k) k = false) : (chqE es cs a b k).length < (chqE es cs a b m).length := by
  have h3 : ∀ j, (chqE es cs a b (k + 1)).length ≤ (chqE es cs a b (k + 1 + j)).length := by
    intro j
    induction j with
    | zero => exact Nat.le_refl _
    | succ j ih =>
      by_cases h : eI cs (k + 1 + j) = a ∧ eL (chqM es cs a b (k + 1 + j)) (k + 1 + j) = false
      · rw [show k + 1 + (j + 1) = k + 1 + j + 1 by omega, chqE_yes h.1 h.2, List.length_append]; omega
      · rw [show k + 1 + (j + 1) = k + 1 + j + 1 by omega, chqE_no h]; exact ih
  have h5 := h3 (m - (k + 1))
  rw [show k + 1 + (m - (k + 1)) = m by omega, chqE_yes h1 h2, List.length_append] at h5
  simp at h5
  omega
/-- How many chains the colours a and b have. -/
def chqN (es : List (Int × Int)) (cs : List Int) (a b : Int) : Nat := (chqE es cs a b es.length).length
/-- The pairs of colours in their order, and the numbers of the first k. -/
def prA (k : Nat) : Int := if k < 2 then 0 else 1
def prB (k : Nat) : Int := if k = 0 then 1 else 2
def numsC (es : List (Int × Int)) (cs : List Int) (k : Nat) : List Int := (List.range k).map fun i => (chqN es cs (prA i) (prB i) : Int)
theorem numsC_len (es : List (Int × Int)) (cs : List Int) (k : Nat) : (numsC es cs k).length = k := by simp [numsC]
theorem numsC_succ (es : List (Int × Int)) (cs : List Int) (k : Nat) : numsC es cs (k + 1) = numsC es cs k ++ [(chqN es cs (prA k) (prB k) : Int)] := by
  unfold numsC
  rw [List.range_succ, List.map_append]
  rfl
theorem chG_of (g : IsG s es) (gc : isColP es cs) {e : Nat} (he : e < es.length) {a b : Int} (h : eI cs e = a) (hb : 0 ≤ b ∧ b < 3) (hab : b ≠ a) : ChG s es cs (eI cs e + b) e :=
  ⟨g, gc, he, by omega, by omega⟩
end
end Go.Proofs.Ytjkemganbfldpaa
