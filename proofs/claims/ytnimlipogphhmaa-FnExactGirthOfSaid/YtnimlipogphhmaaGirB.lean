/- The girth, as the model finds it and as the program does. No program is named here. -/
import Derived.Test.YtnimlipogphhmaaGirA
import Derived.Test.YtnimlipogphhmaaFarB
namespace Go.Proofs.Ytnimlipogphhmaa
open Go.RowKit

/-- The least of the numbers above 0 among d 0 to d (k - 1), and one more: at most N + 1, or at most N. -/
def mG (N : Int) (d : Nat → Int) : Nat → Int
  | 0 => N + 1
  | k + 1 => if 0 < d k then min (mG N d k) (d k + 1) else mG N d k
def pG (N : Int) (d : Nat → Int) : Nat → Int
  | 0 => N
  | k + 1 => if d k ≠ -1 then min (pG N d k) (d k + 1) else pG N d k
theorem mG_le (N : Int) (d : Nat → Int) {k l : Nat} (h : k ≤ l) : mG N d l ≤ mG N d k := by
  induction l with
  | zero => obtain rfl : k = 0 := by omega
            exact Int.le_refl _
  | succ l ih =>
    by_cases e : k = l + 1
    · subst e; exact Int.le_refl _
    · have h1 := ih (by omega)
      show (if 0 < d l then min (mG N d l) (d l + 1) else mG N d l) ≤ _
      split <;> omega
theorem pG_min {N : Int} {d : Nat → Int} {m : Nat} (hd : ∀ k, k < m → d k = -1 ∨ 0 < d k) : ∀ k, k ≤ m → pG N d k = min N (mG N d k)
  | 0, _ => by show N = min N (N + 1); omega
  | k + 1, hk => by
    have h1 := pG_min (N := N) hd k (by omega)
    have h2 := hd k (by omega)
    show (if d k ≠ -1 then min (pG N d k) (d k + 1) else pG N d k) = min N (if 0 < d k then min (mG N d k) (d k + 1) else mG N d k)
    rcases h2 with h2 | h2
    · rw [if_neg (by omega), if_neg (by omega), h1]
    · rw [if_pos (by omega), if_pos h2, h1]
      omega
theorem pG_eq {N : Int} {d : Nat → Int} {m : Nat} (hd : ∀ k, k < m → d k = -1 ∨ 0 < d k) (he : ∃ k, k < m ∧ 0 < d k ∧ d k + 1 ≤ N) : pG N d m = mG N d m := by
  rw [pG_min hd m (Nat.le_refl _)]
  obtain ⟨k, h1, h2, h3⟩ := he
  have h4 := mG_le N d (show k + 1 ≤ m by omega)
  have h5 : mG N d (k + 1) = min (mG N d k) (d k + 1) := by
    show (if 0 < d k then min (mG N d k) (d k + 1) else mG N d k) = _
    rw [if_pos h2]
  omega
theorem mG_ge {N : Int} {d : Nat → Int} (hN : 1 ≤ N) : ∀ k, 2 ≤ mG N d k
  | 0 => by show 2 ≤ N + 1; omega
  | k + 1 => by
    have h1 := mG_ge (N := N) (d := d) hN k
    show 2 ≤ (if 0 < d k then min (mG N d k) (d k + 1) else mG N d k)
    split <;> omega
theorem mG_two {N : Int} {d : Nat → Int} {m : Nat} (hN : 1 ≤ N) (he : ∃ k, k < m ∧ d k = 1) : mG N d m = 2 := by
  obtain ⟨k, h1, h2⟩ := he
  have h3 := mG_ge (d := d) hN m
  have h4 := mG_le N d (show k + 1 ≤ m by omega)
  have h5 : mG N d (k + 1) = min (mG N d k) (d k + 1) := by
    show (if 0 < d k then min (mG N d k) (d k + 1) else mG N d k) = _
    rw [if_pos (by omega)]
  omega

/-- The way between the ends of an edge without it. -/
def dG (N : Nat) (es : List (Int × Int)) (e : Nat) : Int := eI (farF N es (fun k => (k : Int) != (e : Int)) (eA es e)) (eB es e).toNat
theorem dG_or {N : Nat} {es : List (Int × Int)} (g : IsG N es) {e : Nat} (hl : e < es.length) : (dG N es e = -1 ∨ 0 < dG N es e) ∧ dG N es e + 1 ≤ N := by
  have he := endsIn_of g
  have h1 := he e hl
  have hne := isG_ne g hl
  have h2 := farF_bnd (keep := fun k => (k : Int) != (e : Int)) he h1.1 (v := (eB es e).toNat) (by omega)
  have h3 := farF_pos (keep := fun k => (k : Int) != (e : Int)) he h1.1 (u := (eB es e).toNat) (by omega) (by omega)
  unfold dG
  omega
theorem dG_some {N : Nat} {es : List (Int × Int)} (g : IsG N es) : ∃ e, e < es.length ∧ 0 < dG N es e := by
  have he := endsIn_of g
  obtain ⟨e, hl, h⟩ := some_cycle (N := N) (by have := g.1.1.1; omega) (fun i hi => he i hi) (fun v e hv => by
    obtain ⟨x, y, z, h, hxy, _, _⟩ := onL_three g (v := (v : Int)) (by omega)
    have hx := onL_mem.1 (show x ∈ onL es (v : Int) by rw [h]; simp)
    have hy := onL_mem.1 (show y ∈ onL es (v : Int) by rw [h]; simp)
    by_cases e1 : x = e
    · exact ⟨y, hy.1, hy.2, by omega⟩
    · exact ⟨x, hx.1, hx.2, e1⟩)
  refine ⟨e, hl, ?_⟩
  have h1 := he e hl
  have hP := h (fun x => 0 ≤ x ∧ x < N ∧ eI (farF N es (fun k => (k : Int) != (e : Int)) (eA es e)) x.toNat ≠ -1) ⟨h1.1.1, h1.1.2, by rw [farF_start he h1.1]; omega⟩ (fun k hk hne => by
    have h2 := he k hk
    have hkeep : ((k : Int) != (e : Int)) = true := by simp only [bne_iff_ne, ne_eq]; omega
    constructor
    · rintro ⟨a, b, c⟩
      have h3 := farF_step (keep := fun k => (k : Int) != (e : Int)) he h1.1 ⟨a, b⟩ c hk (onE_A es k) hkeep
      rw [oth_A] at h3
      exact ⟨h2.2.1, h2.2.2, h3.1⟩
    · rintro ⟨a, b, c⟩
      have h3 := farF_step (keep := fun k => (k : Int) != (e : Int)) he h1.1 ⟨a, b⟩ c hk (onE_B es k) hkeep
      rw [oth_B] at h3
      exact ⟨h2.1.1, h2.1.2, h3.1⟩)
  have h4 := dG_or g hl
  unfold dG at h4 ⊢
  omega
/-- An edge with an equal one. -/
theorem dG_equal {N : Nat} {es : List (Int × Int)} (g : IsG N es) {i j : Nat} (hi : i < es.length) (hj : j < es.length) (hij : i ≠ j) (hA : eA es i = eA es j) (hB : eB es i = eB es j) : dG N es i = 1 := by
  have he := endsIn_of g
  have h1 := he i hi
  have hkeep : ((j : Int) != (i : Int)) = true := by simp only [bne_iff_ne, ne_eq]; omega
  have h2 := farF_step (keep := fun k => (k : Int) != (i : Int)) (a := eA es i) he h1.1 h1.1 (by rw [farF_start he h1.1]; omega) hj (show onE es (eA es i) j = true by rw [hA]; exact onE_A es j) hkeep
  rw [show othE es (eA es i) j = eB es i by rw [hA, hB]; exact oth_A es j, farF_start he h1.1] at h2
  have h3 := dG_or g hi
  unfold dG at h3 ⊢
  omega
def fGirthOf (s : Int) (es : List (Int × Int)) : Int × Int := if IsG s es then (mG s (dG s.toNat es) es.length, 0) else (0, 1)
theorem gir_diff {N : Nat} {es : List (Int × Int)} (g : IsG N es) : pG N (dG N es) es.length = mG N (dG N es) es.length := by
  obtain ⟨e, h1, h2⟩ := dG_some g
  exact pG_eq (fun k hk => (dG_or g hk).1) ⟨e, h1, h2, (dG_or g h1).2⟩
theorem gir_equal {N : Nat} {es : List (Int × Int)} (g : IsG N es) {i j : Nat} (hi : i < es.length) (hj : j < es.length) (hij : i ≠ j) (hA : eA es i = eA es j) (hB : eB es i = eB es j) : mG N (dG N es) es.length = 2 :=
  mG_two (by have := g.1.1.1; omega) ⟨i, hi, dG_equal g hi hj hij hA hB⟩

end Go.Proofs.Ytnimlipogphhmaa
