/- Squares of marks for things that need different numbers, plainly: what l08Rows lays. No program is named here. -/
import Derived.Test.YtonlpihbpbnnmaaNearA
namespace Go.Proofs.Ytonlpihbpbnnmaa
open Go.RowKit

/-- One mark more. -/
def setM (S : Nat → Nat → Bool) (i j : Nat) : Nat → Nat → Bool := fun a b => decide (a = i ∧ b = j) || S a b
theorem setM_iff {S : Nat → Nat → Bool} {i j a b : Nat} : setM S i j a b = true ↔ (a = i ∧ b = j) ∨ S a b = true := by
  unfold setM
  rw [Bool.or_eq_true, decide_eq_true_eq]
def noM : Nat → Nat → Bool := fun _ _ => false
def condB (es : List (Int × Int)) (tot : Bool) (e f : Nat) : Bool := nearB es e f || (!tot && closeB es e f)
/-- The marks of the edge e and the first f ones. -/
def innS (es : List (Int × Int)) (n : Nat) (tot : Bool) (e : Nat) (S : Nat → Nat → Bool) : Nat → (Nat → Nat → Bool)
  | 0 => S
  | f + 1 => if condB es tot e f = true then setM (setM (innS es n tot e S f) (n + e) (n + f)) (n + f) (n + e) else innS es n tot e S f
/-- An end of an edge. -/
def endK (es : List (Int × Int)) (e k : Nat) : Int := if k = 0 then eA es e else eB es e
/-- The marks of the edge e and its first k ends. -/
def endS (es : List (Int × Int)) (n e : Nat) (S : Nat → Nat → Bool) : Nat → (Nat → Nat → Bool)
  | 0 => S
  | k + 1 => setM (setM (setM (endS es n e S k) (endK es e k).toNat (endK es e (1 - k)).toNat) (endK es e k).toNat (n + e)) (n + e) (endK es e k).toNat
def outS (es : List (Int × Int)) (n : Nat) (tot : Bool) : Nat → (Nat → Nat → Bool)
  | 0 => noM
  | e + 1 => if tot = true then endS es n e (innS es n tot e (outS es n tot e) e) 2 else innS es n tot e (outS es n tot e) e

theorem innS_iff {es : List (Int × Int)} {n e a b : Nat} {tot : Bool} {S : Nat → Nat → Bool} : ∀ {f : Nat}, innS es n tot e S f a b = true ↔ S a b = true ∨ ∃ g, g < f ∧ condB es tot e g = true ∧ ((a = n + e ∧ b = n + g) ∨ (a = n + g ∧ b = n + e))
  | 0 => ⟨fun h => .inl h, fun h => by
    rcases h with h | ⟨g, h, _⟩
    · exact h
    · omega⟩
  | f + 1 => by
    have ih := @innS_iff es n e a b tot S f
    unfold innS
    by_cases hc : condB es tot e f = true
    · rw [if_pos hc, setM_iff, setM_iff, ih]
      constructor
      · rintro (h | h | h | ⟨g, h1, h2, h3⟩)
        · exact .inr ⟨f, by omega, hc, .inr h⟩
        · exact .inr ⟨f, by omega, hc, .inl h⟩
        · exact .inl h
        · exact .inr ⟨g, by omega, h2, h3⟩
      · rintro (h | ⟨g, h1, h2, h3⟩)
        · exact .inr (.inr (.inl h))
        · rcases Nat.lt_or_ge g f with h4 | h4
          · exact .inr (.inr (.inr ⟨g, h4, h2, h3⟩))
          · have h5 : g = f := by omega
            subst h5
            rcases h3 with h3 | h3
            · exact .inr (.inl h3)
            · exact .inl h3
    · rw [if_neg hc, ih]
      constructor
      · rintro (h | ⟨g, h1, h2, h3⟩)
        · exact .inl h
        · exact .inr ⟨g, by omega, h2, h3⟩
      · rintro (h | ⟨g, h1, h2, h3⟩)
        · exact .inl h
        · rcases Nat.lt_or_ge g f with h4 | h4
          · exact .inr ⟨g, h4, h2, h3⟩
          · have h5 : g = f := by omega
            subst h5
            exact absurd h2 hc
theorem endS_iff {es : List (Int × Int)} {n e a b : Nat} {S : Nat → Nat → Bool} : endS es n e S 2 a b = true ↔ S a b = true ∨ ∃ k, k < 2 ∧ ((a = (endK es e k).toNat ∧ b = (endK es e (1 - k)).toNat) ∨ (a = (endK es e k).toNat ∧ b = n + e) ∨ (a = n + e ∧ b = (endK es e k).toNat)) := by
  unfold endS endS endS
  simp only [setM_iff]
  constructor
  · rintro (h | h | h | h | h | h | h)
    · exact .inr ⟨1, by omega, .inr (.inr h)⟩
    · exact .inr ⟨1, by omega, .inr (.inl h)⟩
    · exact .inr ⟨1, by omega, .inl h⟩
    · exact .inr ⟨0, by omega, .inr (.inr h)⟩
    · exact .inr ⟨0, by omega, .inr (.inl h)⟩
    · exact .inr ⟨0, by omega, .inl h⟩
    · exact .inl h
  · rintro (h | ⟨k, h1, h⟩)
    · exact .inr (.inr (.inr (.inr (.inr (.inr h)))))
    · rcases (by omega : k = 0 ∨ k = 1) with rfl | rfl
      · rcases h with h | h | h
        · exact .inr (.inr (.inr (.inr (.inr (.inl h)))))
        · exact .inr (.inr (.inr (.inr (.inl h))))
        · exact .inr (.inr (.inr (.inl h)))
      · rcases h with h | h | h
        · exact .inr (.inr (.inl h))
        · exact .inr (.inl h)
        · exact .inl h

/-- What the marks of an edge say. -/
def edgM (es : List (Int × Int)) (n : Nat) (tot : Bool) (e a b : Nat) : Prop :=
  (∃ g, g < e ∧ condB es tot e g = true ∧ ((a = n + e ∧ b = n + g) ∨ (a = n + g ∧ b = n + e))) ∨
    (tot = true ∧ ∃ k, k < 2 ∧ ((a = (endK es e k).toNat ∧ b = (endK es e (1 - k)).toNat) ∨ (a = (endK es e k).toNat ∧ b = n + e) ∨ (a = n + e ∧ b = (endK es e k).toNat)))
theorem outS_iff {es : List (Int × Int)} {n a b : Nat} {tot : Bool} : ∀ {m : Nat}, outS es n tot m a b = true ↔ ∃ e, e < m ∧ edgM es n tot e a b
  | 0 => ⟨fun h => (by cases h), fun ⟨e, h, _⟩ => (by omega)⟩
  | m + 1 => by
    have ih := @outS_iff es n a b tot m
    have key : outS es n tot (m + 1) a b = true ↔ outS es n tot m a b = true ∨ edgM es n tot m a b := by
      rw [show outS es n tot (m + 1) = (if tot = true then endS es n m (innS es n tot m (outS es n tot m) m) 2 else innS es n tot m (outS es n tot m) m) from rfl]
      unfold edgM
      cases tot
      · rw [if_neg (by decide), innS_iff]
        constructor
        · rintro (h | h)
          · exact .inl h
          · exact .inr (.inl h)
        · rintro (h | h | h)
          · exact .inl h
          · exact .inr h
          · exact absurd h.1 (by decide)
      · rw [if_pos rfl, endS_iff, innS_iff]
        constructor
        · rintro ((h | h) | h)
          · exact .inl h
          · exact .inr (.inl h)
          · exact .inr (.inr ⟨rfl, h⟩)
        · rintro (h | h | h)
          · exact .inl (.inl h)
          · exact .inl (.inr h)
          · exact .inr h.2
    rw [key, ih]
    constructor
    · rintro (⟨e, h1, h2⟩ | h)
      · exact ⟨e, by omega, h2⟩
      · exact ⟨m, by omega, h⟩
    · rintro ⟨e, h1, h2⟩
      rcases Nat.lt_or_ge e m with h3 | h3
      · exact .inl ⟨e, h3, h2⟩
      · have : e = m := by omega
        subst this
        exact .inr h2
/-- The squares of strong colourings tell which edges are close. -/
theorem outS_close {es : List (Int × Int)} {i j : Nat} (hj : j < i) (hi : i < es.length) : outS es 0 false es.length i j = closeB es i j := by
  have hc : condB es false i j = closeB es i j := by
    unfold condB
    rw [Bool.eq_iff_iff, Bool.or_eq_true, Bool.not_false, Bool.true_and]
    constructor
    · rintro (h | h)
      · exact decide_eq_true (close_near hi h)
      · exact h
    · exact .inr
  rw [Bool.eq_iff_iff, outS_iff, ← hc]
  constructor
  · rintro ⟨e, h1, (⟨g, h2, h3, h4⟩ | h)⟩
    · have e1 : e = i ∧ g = j := by omega
      rw [e1.1, e1.2] at h3
      exact h3
    · exact absurd h.1 (by decide)
  · intro h
    exact ⟨i, hi, .inl ⟨j, hj, h, .inl (by omega)⟩⟩
theorem endK_on {es : List (Int × Int)} {e : Nat} {v : Nat} (h0 : 0 ≤ eA es e ∧ 0 ≤ eB es e) : onE es v e = true ↔ ∃ k, k < 2 ∧ (endK es e k).toNat = v := by
  unfold onE
  rw [Bool.or_eq_true, beq_iff_eq, beq_iff_eq]
  constructor
  · rintro (h | h)
    · exact ⟨0, by omega, by unfold endK; rw [if_pos rfl, h]; simp⟩
    · exact ⟨1, by omega, by unfold endK; rw [if_neg (by omega), h]; simp⟩
  · rintro ⟨k, h1, h2⟩
    rcases (by omega : k = 0 ∨ k = 1) with rfl | rfl
    · left
      have : endK es e 0 = eA es e := rfl
      omega
    · right
      have : endK es e 1 = eB es e := rfl
      omega
/-- The squares of total colourings tell what has other numbers. -/
theorem outS_tot {es : List (Int × Int)} {N i j : Nat} (hg : IsG N es) (hj : j < i) (hi : i < N + es.length) : outS es N true es.length i j = totB N es i j := by
  have hends : ∀ e, e < es.length → (0 ≤ eA es e ∧ 0 ≤ eB es e) ∧ ∀ k, k < 2 → (endK es e k).toNat < N := fun e he => by
    have h := hg.1.2 e he
    unfold okEdge at h
    refine ⟨⟨h.1, h.2.2.1⟩, fun k hk => ?_⟩
    unfold endK
    split <;> omega
  have hcond : ∀ e f, condB es true e f = nearB es e f := fun e f => by
    unfold condB
    simp
  rw [Bool.eq_iff_iff, outS_iff]
  unfold totB
  by_cases h1 : i < N
  · rw [if_pos h1, decide_eq_true_eq]
    constructor
    · rintro ⟨e, he, (⟨g, _, _, h4⟩ | ⟨_, k, hk, h4⟩)⟩
      · omega
      · obtain ⟨⟨ha, hb⟩, hK⟩ := hends e he
        have := hK k hk
        rcases h4 with h4 | h4 | h4
        · refine ⟨e, he, ?_⟩
          rcases (by omega : k = 0 ∨ k = 1) with rfl | rfl
          · left
            have q1 : endK es e 0 = eA es e := rfl
            have q2 : endK es e (1 - 0) = eB es e := rfl
            omega
          · right
            have q1 : endK es e 1 = eB es e := rfl
            have q2 : endK es e (1 - 1) = eA es e := rfl
            omega
        · omega
        · omega
    · rintro ⟨e, he, h⟩
      obtain ⟨⟨ha, hb⟩, hK⟩ := hends e he
      refine ⟨e, he, .inr ⟨rfl, ?_⟩⟩
      rcases h with h | h
      · refine ⟨0, by omega, .inl ?_⟩
        have q1 : endK es e 0 = eA es e := rfl
        have q2 : endK es e (1 - 0) = eB es e := rfl
        omega
      · refine ⟨1, by omega, .inl ?_⟩
        have q1 : endK es e 1 = eB es e := rfl
        have q2 : endK es e (1 - 1) = eA es e := rfl
        omega
  · rw [if_neg h1]
    by_cases h2 : j < N
    · rw [if_pos h2]
      have hon := endK_on (es := es) (e := i - N) (v := j) (hends (i - N) (by omega)).1
      rw [hon]
      constructor
      · rintro ⟨e, he, (⟨g, _, _, h4⟩ | ⟨_, k, hk, h4⟩)⟩
        · omega
        · have := (hends e he).2 k hk
          have := (hends e he).2 (1 - k) (by omega)
          rcases h4 with h4 | h4 | h4
          · omega
          · omega
          · exact ⟨k, hk, by rw [show i - N = e by omega]; exact h4.2.symm⟩
      · rintro ⟨k, hk, h⟩
        exact ⟨i - N, by omega, .inr ⟨rfl, k, hk, .inr (.inr ⟨by omega, h.symm⟩)⟩⟩
    · rw [if_neg h2]
      constructor
      · rintro ⟨e, he, (⟨g, h3, h5, h4⟩ | ⟨_, k, hk, h4⟩)⟩
        · have q : e = i - N ∧ g = j - N := by omega
          rw [hcond, q.1, q.2] at h5
          exact h5
        · have := (hends e he).2 k hk
          have := (hends e he).2 (1 - k) (by omega)
          omega
      · intro h
        exact ⟨i - N, by omega, .inl ⟨j - N, by omega, by rw [hcond]; exact h, .inl (by omega)⟩⟩

theorem suit_cong {k d : Int} {M M' : Nat → Nat → Bool} {xs : List Int} (h : ∀ i, i < xs.length → ∀ j, j < i → M i j = M' i j) : suitP k d M xs ↔ suitP k d M' xs := by
  unfold suitP
  constructor
  · rintro ⟨h1, h2⟩
    exact ⟨h1, fun i hi j hj hM => h2 i hi j hj (by rw [h i hi j hj]; exact hM)⟩
  · rintro ⟨h1, h2⟩
    exact ⟨h1, fun i hi j hj hM => h2 i hi j hj (by rw [← h i hi j hj]; exact hM)⟩

end Go.Proofs.Ytonlpihbpbnnmaa
