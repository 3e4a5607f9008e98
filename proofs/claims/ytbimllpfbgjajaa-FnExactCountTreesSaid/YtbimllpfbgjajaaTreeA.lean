/- The determinant of a graph's matrix as it is worked out without fractions: what holds of the numbers left at each step. No program is named here. -/
import Derived.Test.YtbimllpfbgjajaaPlain
namespace Go.Proofs.Ytbimllpfbgjajaa
open Go.RowKit

/-- The sum of r terms from the i-th on. -/
def sumR (f : Nat → Int) (i : Nat) : Nat → Int
  | 0 => 0
  | r + 1 => sumR f i r + f (i + r)
theorem sumR_one (f : Nat → Int) (i : Nat) : ∀ r, sumR f i (r + 1) = f i + sumR f (i + 1) r
  | 0 => by simp [sumR]
  | r + 1 => by
    have h := sumR_one f i r
    have h1 : sumR f i (r + 1 + 1) = sumR f i (r + 1) + f (i + (r + 1)) := rfl
    have h2 : sumR f (i + 1) (r + 1) = sumR f (i + 1) r + f (i + 1 + r) := rfl
    rw [h1, h2, h, show i + (r + 1) = i + 1 + r by omega]
    omega
theorem sumR_congr {f g : Nat → Int} {i : Nat} : ∀ r, (∀ j, i ≤ j → j < i + r → f j = g j) → sumR f i r = sumR g i r
  | 0, _ => rfl
  | r + 1, h => by
    unfold sumR
    rw [sumR_congr r (fun j h1 h2 => h j h1 (by omega)), h (i + r) (by omega) (by omega)]
theorem sumR_mono {f g : Nat → Int} {i : Nat} : ∀ r, (∀ j, i ≤ j → j < i + r → f j ≤ g j) → sumR f i r ≤ sumR g i r
  | 0, _ => Int.le_refl _
  | r + 1, h => by
    unfold sumR
    have h1 := sumR_mono r (fun j h1 h2 => h j h1 (by omega))
    have h2 := h (i + r) (by omega) (by omega)
    omega
theorem sumR_zero (i : Nat) : ∀ r, sumR (fun _ => 0) i r = 0
  | 0 => rfl
  | r + 1 => by
    unfold sumR
    rw [sumR_zero i r]
    rfl
theorem sumR_none {f : Nat → Int} {i : Nat} : ∀ r, (∀ j, i ≤ j → j < i + r → f j ≤ 0) → 0 ≤ sumR f i r → ∀ j, i ≤ j → j < i + r → f j = 0
  | 0, _, _, j, h1, h2 => by omega
  | r + 1, h, h0, j, h1, h2 => by
    unfold sumR at h0
    have hs := sumR_mono (g := fun _ => 0) r (fun j h1 h2 => h j h1 (by omega))
    rw [sumR_zero] at hs
    have hl := h (i + r) (by omega) (by omega)
    by_cases hj : j < i + r
    · exact sumR_none r (fun j h1 h2 => h j h1 (by omega)) (by omega) j h1 hj
    · rw [show j = i + r by omega]
      omega
theorem sumR_lin (f g : Nat → Int) (p a : Int) (i : Nat) : ∀ r, sumR (fun l => f l * p - a * g l) i r = sumR f i r * p - a * sumR g i r
  | 0 => by simp [sumR]
  | r + 1 => by
    unfold sumR
    rw [sumR_lin f g p a i r, Int.add_mul, Int.mul_add]
    omega
theorem sumR_mul (f : Nat → Int) (b : Int) (i : Nat) : ∀ r, sumR (fun l => b * f l) i r = b * sumR f i r
  | 0 => by simp [sumR]
  | r + 1 => by
    unfold sumR
    rw [sumR_mul f b i r, Int.mul_add]
theorem sumR_sub (f g : Nat → Int) (i : Nat) : ∀ r, sumR (fun l => f l - g l) i r = sumR f i r - sumR g i r
  | 0 => by simp [sumR]
  | r + 1 => by
    unfold sumR
    rw [sumR_sub f g i r]
    omega
theorem sumR_at (c : Int) (k i : Nat) : ∀ r, sumR (fun l => if l = k then c else 0) i r = if i ≤ k ∧ k < i + r then c else 0
  | 0 => by
    rw [if_neg (by omega)]
    rfl
  | r + 1 => by
    unfold sumR
    rw [sumR_at c k i r]
    by_cases h1 : i + r = k
    · rw [if_pos h1, if_neg (by omega), if_pos (by omega)]
      omega
    · rw [if_neg h1]
      by_cases h2 : i ≤ k ∧ k < i + r
      · rw [if_pos h2, if_pos (by omega)]
        omega
      · rw [if_neg h2, if_neg (by omega)]
        rfl

/-- Division towards zero. -/
theorem tdiv_low {a b : Int} (hb : 0 < b) (ha : a ≤ 0) : a ≤ b * a.tdiv b ∧ a.tdiv b ≤ 0 := by
  obtain ⟨c, hc⟩ : ∃ c, -a = c := ⟨_, rfl⟩
  have hc0 : 0 ≤ c := by omega
  have h1 : a.tdiv b = -(c / b) := by
    rw [show a = -c by omega, Int.neg_tdiv, Int.tdiv_eq_ediv_of_nonneg hc0]
  have h2 : 0 ≤ c / b := Int.ediv_nonneg hc0 (by omega)
  have h3 := Int.mul_ediv_self_le (x := c) (k := b) (by omega)
  rw [h1, Int.mul_neg]
  omega
theorem tdiv_high {a b : Int} (hb : 0 < b) (ha : 0 ≤ a) : a - (b - 1) ≤ b * a.tdiv b ∧ 0 ≤ a.tdiv b := by
  rw [Int.tdiv_eq_ediv_of_nonneg ha]
  have h1 := Int.mul_ediv_add_emod a b
  have h2 := Int.emod_lt_of_pos a hb
  exact ⟨by omega, Int.ediv_nonneg ha (by omega)⟩
theorem tdiv_any {a b : Int} (hb : 0 < b) : a - (b - 1) ≤ b * a.tdiv b := by
  rcases Int.le_total 0 a with h | h
  · exact (tdiv_high hb h).1
  · have := (tdiv_low hb h).1
    omega

/-- What is left of a matrix at the step i: symmetric, nothing above 0 beside the diagonal, no sum of a row below 0, the diagonal at most three times what is divided by. -/
structure TInv (n i : Nat) (b : Int) (M : Nat → Nat → Int) : Prop where
  pos : 0 < b
  pw : b ≤ 3 ^ i
  sym : ∀ k l, i ≤ k → k < n → i ≤ l → l < n → M k l = M l k
  off : ∀ k l, i ≤ k → k < n → i ≤ l → l < n → k ≠ l → M k l ≤ 0
  sum : ∀ k, i ≤ k → k < n → 0 ≤ sumR (M k) i (n - i)
  dia : ∀ k, i ≤ k → k < n → M k k ≤ 3 * b

/-- One step. -/
def numT (i : Nat) (M : Nat → Nat → Int) (k l : Nat) : Int := M k l * M i i - M k i * M i l
def stepT (b : Int) (i : Nat) (M : Nat → Nat → Int) (k l : Nat) : Int := if i < k ∧ i < l then (numT i M k l).tdiv b else M k l

theorem TInv.piv {n i : Nat} {b : Int} {M : Nat → Nat → Int} (h : TInv n i b M) {k : Nat} (hk : i ≤ k) (hkn : k < n) : 0 ≤ M k k := by
  have h1 := h.sum k hk hkn
  have h2 := sumR_mono (f := M k) (g := fun l => if l = k then M k k else 0) (i := i) (n - i) (fun j h3 h4 => by
    by_cases hj : j = k
    · subst hj; rw [if_pos rfl]; exact Int.le_refl _
    · rw [if_neg hj]; exact h.off k j hk hkn h3 (by omega) (fun e => hj e.symm))
  rw [sumR_at, if_pos (by omega)] at h2
  omega

/-- Where the diagonal has 0, its column has nothing else. -/
theorem TInv.none {n i : Nat} {b : Int} {M : Nat → Nat → Int} (h : TInv n i b M) (hi : i < n) (h0 : M i i = 0) : ∀ k, i ≤ k → k < n → M k i = 0 := fun k hk hkn => by
  have h1 := sumR_none (n - i) (fun j h3 h4 => by
    by_cases hj : j = i
    · subst hj; omega
    · exact h.off i j (Nat.le_refl _) hi h3 (by omega) (fun e => hj e.symm)) (h.sum i (Nat.le_refl _) hi) k hk (by omega)
  rw [h.sym k i hk hkn (Nat.le_refl _) hi]
  exact h1

theorem numT_sym {n i : Nat} {b : Int} {M : Nat → Nat → Int} (h : TInv n i b M) {k l : Nat} (hk : i < k) (hkn : k < n) (hl : i < l) (hln : l < n) : numT i M k l = numT i M l k := by
  unfold numT
  rw [h.sym k l (by omega) hkn (by omega) hln, h.sym k i (by omega) hkn (Nat.le_refl _) (by omega), h.sym i l (Nat.le_refl _) (by omega) (by omega) hln, Int.mul_comm (M i k)]

theorem TInv.step {n i : Nat} {b : Int} {M : Nat → Nat → Int} (h : TInv n i b M) (hi : i < n) (h0 : M i i ≠ 0) : TInv n (i + 1) (M i i) (stepT b i M) := by
  have hp : 0 < M i i := by have := h.piv (Nat.le_refl _) hi; omega
  have hb := h.pos
  have hst : ∀ k l, i < k → i < l → stepT b i M k l = (numT i M k l).tdiv b := fun k l h1 h2 => by unfold stepT; rw [if_pos ⟨h1, h2⟩]
  have hoff : ∀ k l, i < k → k < n → i < l → l < n → k ≠ l → numT i M k l ≤ 0 := fun k l h1 h2 h3 h4 h5 => by
    unfold numT
    have e1 := h.off k l (by omega) h2 (by omega) h4 h5
    have e2 := h.off k i (by omega) h2 (Nat.le_refl _) hi (by omega)
    have e3 := h.off i l (Nat.le_refl _) hi (by omega) h4 (by omega)
    have e4 : M k l * M i i ≤ 0 := Int.mul_nonpos_of_nonpos_of_nonneg e1 (by omega)
    have e5 : 0 ≤ M k i * M i l := Int.mul_nonneg_of_nonpos_of_nonpos e2 e3
    omega
  refine ⟨hp, ?_, ?_, ?_, ?_, ?_⟩
  · have h1 := h.dia i (Nat.le_refl _) hi
    have h2 := h.pw
    rw [Int.pow_succ]
    omega
  · intro k l h1 h2 h3 h4
    rw [hst k l (by omega) (by omega), hst l k (by omega) (by omega), numT_sym h (by omega) h2 (by omega) h4]
  · intro k l h1 h2 h3 h4 h5
    rw [hst k l (by omega) (by omega)]
    exact (tdiv_low hb (hoff k l (by omega) h2 (by omega) h4 h5)).2
  · intro k h1 h2
    have e1 : sumR (stepT b i M k) (i + 1) (n - (i + 1)) = sumR (fun l => (numT i M k l).tdiv b) (i + 1) (n - (i + 1)) := sumR_congr _ (fun j h3 h4 => hst k j (by omega) (by omega))
    rw [e1]
    have e2 : sumR (fun l => numT i M k l - (if l = k then b - 1 else 0)) (i + 1) (n - (i + 1)) ≤ sumR (fun l => b * (numT i M k l).tdiv b) (i + 1) (n - (i + 1)) := sumR_mono _ (fun j h3 h4 => by
      by_cases hj : j = k
      · rw [if_pos hj]; exact tdiv_any hb
      · rw [if_neg hj]
        have := (tdiv_low hb (hoff k j (by omega) h2 (by omega) (by omega) (fun e => hj e.symm))).1
        omega)
    rw [sumR_mul, sumR_sub, sumR_at, if_pos (by omega)] at e2
    have e3 : sumR (fun l => numT i M k l) (i + 1) (n - (i + 1)) = sumR (M k) (i + 1) (n - (i + 1)) * M i i - M k i * sumR (M i) (i + 1) (n - (i + 1)) := sumR_lin _ _ _ _ _ _
    have s1 : sumR (M k) i (n - i) = M k i + sumR (M k) (i + 1) (n - (i + 1)) := by rw [show n - i = (n - (i + 1)) + 1 by omega]; exact sumR_one _ _ _
    have s2 : sumR (M i) i (n - i) = M i i + sumR (M i) (i + 1) (n - (i + 1)) := by rw [show n - i = (n - (i + 1)) + 1 by omega]; exact sumR_one _ _ _
    have r1 := h.sum k (by omega) h2
    have r2 := h.sum i (Nat.le_refl _) hi
    have ha := h.off k i (by omega) h2 (Nat.le_refl _) hi (by omega)
    generalize sumR (M k) (i + 1) (n - (i + 1)) = A at *
    generalize sumR (M i) (i + 1) (n - (i + 1)) = B at *
    generalize sumR (fun l => numT i M k l) (i + 1) (n - (i + 1)) = C at *
    generalize sumR (fun l => (numT i M k l).tdiv b) (i + 1) (n - (i + 1)) = S at *
    rw [s1] at r1
    rw [s2] at r2
    have hC : 0 ≤ C := by
      have t1 : 0 ≤ (M k i + A) * M i i := Int.mul_nonneg r1 (by omega)
      have t2 : M k i * (M i i + B) ≤ 0 := Int.mul_nonpos_of_nonpos_of_nonneg ha r2
      rw [Int.add_mul] at t1
      rw [Int.mul_add] at t2
      omega
    rcases (by omega : S < 0 ∨ 0 ≤ S) with hS | hS
    · have : b * S ≤ b * (-1) := Int.mul_le_mul_of_nonneg_left (by omega) (by omega)
      rw [Int.mul_neg, Int.mul_one] at this
      omega
    · exact hS
  · intro k h1 h2
    rw [hst k k (by omega) (by omega)]
    have e1 : M i k = M k i := h.sym i k (Nat.le_refl _) hi (by omega) h2
    have e2 := h.dia k (by omega) h2
    have e3 : numT i M k k ≤ 3 * M i i * b := by
      unfold numT
      rw [e1]
      have t1 : M k k * M i i ≤ 3 * b * M i i := Int.mul_le_mul_of_nonneg_right e2 (by omega)
      have t2 : 0 ≤ M k i * M k i := (by
        rcases Int.le_total 0 (M k i) with q | q
        · exact Int.mul_nonneg q q
        · exact Int.mul_nonneg_of_nonpos_of_nonpos q q)
      have t3 : 3 * b * M i i = 3 * M i i * b := by rw [Int.mul_assoc, Int.mul_comm b, ← Int.mul_assoc]
      omega
    rcases Int.le_total 0 (numT i M k k) with hn | hn
    · rw [Int.tdiv_eq_ediv_of_nonneg hn]
      have := Int.ediv_le_ediv hb e3
      rwa [Int.mul_ediv_cancel _ (by omega)] at this
    · have := (tdiv_low hb hn).2
      omega

/-- The numbers stay small. -/
theorem TInv.abs {n i : Nat} {b : Int} {M : Nat → Nat → Int} (h : TInv n i b M) {k l : Nat} (hk : i ≤ k) (hkn : k < n) (hl : i ≤ l) (hln : l < n) : -(3 * b) ≤ M k l ∧ M k l ≤ 3 * b := by
  have hb := h.pos
  by_cases e : k = l
  · subst e
    have := h.piv hk hkn
    have := h.dia k hk hkn
    omega
  · have h1 := h.off k l hk hkn hl hln e
    have h2 := h.sum k hk hkn
    have h3 := h.dia k hk hkn
    have h4 := sumR_mono (f := M k) (g := fun j => (if j = k then M k k else 0) - (if j = l then -(M k l) else 0)) (i := i) (n - i) (fun j h5 h6 => by
      by_cases hj : j = k
      · subst hj; rw [if_pos rfl, if_neg e]; omega
      · rw [if_neg hj]
        by_cases hj2 : j = l
        · subst hj2; rw [if_pos rfl]; omega
        · rw [if_neg hj2]
          have := h.off k j hk hkn h5 (by omega) (fun e => hj e.symm)
          omega)
    rw [sumR_sub, sumR_at, sumR_at, if_pos (by omega), if_pos (by omega)] at h4
    omega

/-- The determinant, r steps before the end. -/
def detT (n : Nat) : Nat → Int → (Nat → Nat → Int) → Int
  | 0, b, _ => b
  | r + 1, b, M => if M (n - (r + 1)) (n - (r + 1)) = 0 then 0 else detT n r (M (n - (r + 1)) (n - (r + 1))) (stepT b (n - (r + 1)) M)

end Go.Proofs.Ytbimllpfbgjajaa
