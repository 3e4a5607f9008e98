/- The search for the least list that suits, plainly: what is found is the first one, and reasons tell why there is none. No program is named here. -/
import Derived.Test.YtonlpihbpbnnmaaNearA
namespace Go.Proofs.Ytonlpihbpbnnmaa
open Go.RowKit

/-- The first value among those of 0 to k - 1. -/
def firstS {α : Type} (f : Nat → Option α) : Nat → Option α
  | 0 => none
  | k + 1 => match firstS f k with
    | some y => some y
    | none => f k
theorem firstS_none {α : Type} {f : Nat → Option α} : ∀ {k : Nat}, firstS f k = none ↔ ∀ x, x < k → f x = none
  | 0 => ⟨fun _ x h => absurd h (by omega), fun _ => rfl⟩
  | k + 1 => by
    have ih := @firstS_none α f k
    constructor
    · intro h x hx
      cases hk : firstS f k with
      | some y => simp [firstS, hk] at h
      | none =>
        have h2 : f k = none := by simpa [firstS, hk] using h
        rcases Nat.lt_or_ge x k with h3 | h3
        · exact ih.1 hk x h3
        · have h4 : x = k := by omega
          rw [h4]; exact h2
    · intro h
      have hk : firstS f k = none := ih.2 fun x hx => h x (by omega)
      simp only [firstS, hk]
      exact h k (by omega)
theorem firstS_some {α : Type} {f : Nat → Option α} {x : Nat} {a : α} (h0 : ∀ y, y < x → f y = none) (h1 : f x = some a) : ∀ {k : Nat}, x < k → firstS f k = some a
  | 0, h => absurd h (by omega)
  | k + 1, h => by
    rcases Nat.lt_or_ge x k with h3 | h3
    · simp only [firstS, firstS_some h0 h1 h3]
    · have h4 : k = x := by omega
      subst h4
      have hk : firstS f k = none := firstS_none.2 h0
      simp only [firstS, hk, h1]
theorem firstS_eq {α : Type} {f : Nat → Option α} {k : Nat} {a : α} (h : firstS f k = some a) : ∃ x, x < k ∧ (∀ y, y < x → f y = none) ∧ f x = some a := by
  induction k with
  | zero => cases h
  | succ k ih =>
    cases hk : firstS f k with
    | some y =>
      have h2 : y = a := by simpa [firstS, hk] using h
      rw [h2] at hk
      obtain ⟨x, h3, h4⟩ := ih hk
      exact ⟨x, by omega, h4⟩
    | none =>
      exact ⟨k, by omega, firstS_none.1 hk, by simpa [firstS, hk] using h⟩

section
variable {k : Nat} {d : Int} {M : Nat → Nat → Bool}

/-- The first list that suits and begins as told, r numbers being left. -/
def srch (k : Nat) (d : Int) (M : Nat → Nat → Bool) : Nat → List Int → Option (List Int)
  | 0, xs => some xs
  | r + 1, xs => firstS (fun (x : Nat) => if fitB k d M xs xs.length x = true then srch k d M r (xs ++ [(x : Int)]) else none) k

theorem eI_app_lt {xs : List Int} {y : Int} {i : Nat} (h : i < xs.length) : eI (xs ++ [y]) i = eI xs i := by
  rw [eI_lt (by simp; omega), eI_lt h, List.getElem_append_left]
theorem eI_app_at {xs : List Int} {y : Int} : eI (xs ++ [y]) xs.length = y := by
  rw [eI_lt (by simp)]
  simp
theorem fitB_cong {xs ys : List Int} {i : Nat} {x : Int} (h : ∀ j, j < i → eI xs j = eI ys j) : fitB k d M xs i x = fitB k d M ys i x := by
  unfold fitB
  rw [decide_eq_decide]
  constructor
  · intro h1 j hj hM
    rw [← h j hj]; exact h1 j hj hM
  · intro h1 j hj hM
    rw [h j hj]; exact h1 j hj hM
/-- A whole list that suits. -/
def Wh (k : Nat) (d : Int) (M : Nat → Nat → Bool) (n : Nat) (ys : List Int) : Prop := ys.length = n ∧ suitP k d M ys
theorem suit_app {xs : List Int} {x : Nat} (h : suitP k d M xs) (hx : x < k) (hf : fitB k d M xs xs.length x = true) : suitP k d M (xs ++ [(x : Int)]) := by
  rw [suit_fit] at h ⊢
  obtain ⟨h1, h2⟩ := h
  have hl : (xs ++ [(x : Int)]).length = xs.length + 1 := by simp
  refine ⟨fun i hi => ?_, fun i hi => ?_⟩
  · rcases Nat.lt_or_ge i xs.length with h3 | h3
    · rw [eI_app_lt h3]; exact h1 i h3
    · have h4 : i = xs.length := by omega
      rw [h4, eI_app_at]; omega
  · rcases Nat.lt_or_ge i xs.length with h3 | h3
    · rw [eI_app_lt h3, fitB_cong (ys := xs) fun j hj => eI_app_lt (by omega)]
      exact h2 i h3
    · have h4 : i = xs.length := by omega
      rw [h4, eI_app_at, fitB_cong (ys := xs) fun j hj => eI_app_lt hj]
      exact hf
/-- What is found suits and begins as told. -/
theorem srch_wh : ∀ (r : Nat) (xs zs : List Int), suitP k d M xs → srch k d M r xs = some zs → Wh k d M (xs.length + r) zs ∧ ∀ i, i < xs.length → eI zs i = eI xs i
  | 0, xs, zs, h, e => by
    have h2 : xs = zs := by simpa [srch] using e
    subst h2
    exact ⟨⟨rfl, h⟩, fun i hi => rfl⟩
  | r + 1, xs, zs, h, e => by
    obtain ⟨x, hx, _, h2⟩ := firstS_eq e
    by_cases hf : fitB k d M xs xs.length x = true
    · rw [if_pos hf] at h2
      obtain ⟨h3, h4⟩ := srch_wh r _ zs (suit_app h hx hf) h2
      have hl : (xs ++ [(x : Int)]).length = xs.length + 1 := by simp
      rw [hl] at h3 h4
      refine ⟨?_, fun i hi => ?_⟩
      · rw [show xs.length + (r + 1) = xs.length + 1 + r by omega]; exact h3
      · rw [h4 i (by omega), eI_app_lt hi]
    · rw [if_neg hf] at h2
      cases h2
/-- If there is one, one is found. -/
theorem srch_has : ∀ (r : Nat) (xs ys : List Int), Wh k d M (xs.length + r) ys → (∀ i, i < xs.length → eI ys i = eI xs i) → ∃ zs, srch k d M r xs = some zs
  | 0, xs, _, _, _ => ⟨xs, rfl⟩
  | r + 1, xs, ys, h, hp => by
    obtain ⟨hl, hs⟩ := h
    have h1 := suit_fit.1 hs
    have hy := h1.1 xs.length (by omega)
    obtain ⟨y, hy'⟩ : ∃ y : Nat, eI ys xs.length = y := ⟨_, (Int.toNat_of_nonneg hy.1).symm⟩
    have hf := h1.2 xs.length (by omega)
    rw [hy', fitB_cong hp] at hf
    rw [hy'] at hy
    have hla : (xs ++ [(y : Int)]).length = xs.length + 1 := by simp
    obtain ⟨zs, hz⟩ := srch_has r (xs ++ [(y : Int)]) ys ⟨by rw [hla]; omega, hs⟩ (fun i hi => by
      rcases Nat.lt_or_ge i xs.length with h3 | h3
      · rw [eI_app_lt h3]; exact hp i h3
      · have h4 : i = xs.length := by omega
        rw [h4, eI_app_at, hy'])
    cases hn : srch k d M (r + 1) xs with
    | some z => exact ⟨z, rfl⟩
    | none =>
      have h2 := firstS_none.1 hn y (by omega)
      rw [if_pos hf, hz] at h2
      cases h2

/-- There is none if a list has the numbers of xs where R tells. -/
def badR (k : Nat) (d : Int) (M : Nat → Nat → Bool) (n : Nat) (R : Nat) (xs : List Int) : Prop := ∀ ys, Wh k d M n ys → ¬ ∀ i, i < xs.length → R.testBit i = true → eI ys i = eI xs i
/-- And behind it the number x. -/
def badX (k : Nat) (d : Int) (M : Nat → Nat → Bool) (n : Nat) (R : Nat) (xs : List Int) (x : Nat) : Prop := ∀ ys, Wh k d M n ys → (∀ i, i < xs.length → R.testBit i = true → eI ys i = eI xs i) → eI ys xs.length ≠ x
theorem badX.more {n R R' : Nat} {xs : List Int} {x : Nat} (h : badX k d M n R xs x) (hR : ∀ i, i < xs.length → R.testBit i = true → R'.testBit i = true) : badX k d M n R' xs x := fun ys hw hy => h ys hw fun i hi hb => hy i hi (hR i hi hb)
theorem badR.more {n R R' : Nat} {xs : List Int} (h : badR k d M n R xs) (hR : ∀ i, i < xs.length → R.testBit i = true → R'.testBit i = true) : badR k d M n R' xs := fun ys hw hy => h ys hw fun i hi hb => hy i hi (hR i hi hb)
theorem badR.none {n R r : Nat} {xs : List Int} (h : badR k d M n R xs) (hs : suitP k d M xs) (hn : xs.length + r = n) : srch k d M r xs = none := by
  cases e : srch k d M r xs with
  | none => rfl
  | some zs =>
    obtain ⟨h1, h2⟩ := srch_wh r xs zs hs e
    rw [hn] at h1
    exact absurd (fun i hi _ => h2 i hi) (h zs h1)
/-- A number that is not apart from one ahead. -/
theorem badX_clash {n : Nat} {xs : List Int} {x i : Nat} (hi : i < xs.length) (hn : xs.length < n) (hM : M xs.length i = true) (ha : apartB k d x (eI xs i) = false) : badX k d M n (2 ^ i) xs x := fun ys hw hy e => by
  have h1 := hw.2.2 xs.length (by rw [hw.1]; exact hn) i hi hM
  rw [e, hy i hi (by simp), ha] at h1
  cases h1
theorem badX_behind {n R : Nat} {xs : List Int} {x : Nat} (h : badR k d M n R (xs ++ [(x : Int)])) : badX k d M n R xs x := fun ys hw hy e => h ys hw fun i hi hb => by
  rcases Nat.lt_or_ge i xs.length with h3 | h3
  · rw [eI_app_lt h3]; exact hy i h3 hb
  · have h4 : i = xs.length := by simp at hi; omega
    rw [h4, eI_app_at, e]
/-- The last number is no reason. -/
theorem badR_behind {n R : Nat} {xs : List Int} {x : Nat} (h : badR k d M n R (xs ++ [(x : Int)])) (hR : R.testBit xs.length = false) : badR k d M n R xs := fun ys hw hy => h ys hw fun i hi hb => by
  rcases Nat.lt_or_ge i xs.length with h3 | h3
  · rw [eI_app_lt h3]; exact hy i h3 hb
  · have h4 : i = xs.length := by simp at hi; omega
    rw [h4, hR] at hb
    cases hb

theorem eI_map {f : Int → Int} {ys : List Int} {i : Nat} (h : i < ys.length) : eI (ys.map f) i = f (eI ys i) := by
  rw [eI_lt (by simpa using h), eI_lt h]
  simp
/-- A change of the numbers that keeps them apart. -/
theorem wh_map {n : Nat} {ys : List Int} {f : Int → Int} (h : Wh k d M n ys) (h0 : ∀ x : Int, 0 ≤ x ∧ x < k → 0 ≤ f x ∧ f x < k) (h1 : ∀ x y : Int, 0 ≤ x ∧ x < k → 0 ≤ y ∧ y < k → apartB k d x y = true → apartB k d (f x) (f y) = true) : Wh k d M n (ys.map f) := by
  obtain ⟨hl, hr, ha⟩ := h
  refine ⟨by simpa using hl, fun i hi => ?_, fun i hi j hj hM => ?_⟩
  · rw [List.length_map] at hi
    rw [eI_map hi]; exact h0 _ (hr i hi)
  · rw [List.length_map] at hi
    rw [eI_map hi, eI_map (by omega)]
    exact h1 _ _ (hr i hi) (hr j (by omega)) (ha i hi j hj hM)
/-- Turned around the circle by y. -/
def turnI (k : Nat) (y x : Int) : Int := if y ≤ x then x - y else x - y + k
theorem wh_turn {n : Nat} {ys : List Int} {y : Int} (hy : 0 ≤ y ∧ y < k) (h : Wh k d M n ys) : Wh k d M n (ys.map (turnI k y)) := by
  refine wh_map h (fun x hx => ?_) (fun x z hx hz ha => ?_)
  · unfold turnI; split <;> omega
  · unfold apartB turnI at *
    simp only [Bool.and_eq_true, decide_eq_true_eq] at ha ⊢
    split <;> split <;> omega
/-- Two numbers exchanged. -/
def swapI (a b x : Int) : Int := if x = a then b else if x = b then a else x
theorem wh_swap {n : Nat} {ys : List Int} {a b : Int} (ha : 0 ≤ a ∧ a < k) (hb : 0 ≤ b ∧ b < k) (h : Wh k 1 M n ys) : Wh k 1 M n (ys.map (swapI a b)) := by
  have h0 : ∀ x : Int, 0 ≤ x ∧ x < k → 0 ≤ swapI a b x ∧ swapI a b x < k := fun x hx => by
    unfold swapI; split
    · omega
    · split <;> omega
  refine wh_map h h0 (fun x z hx hz hap => ?_)
  rw [apart_one hx hz] at hap
  rw [apart_one (h0 x hx) (h0 z hz)]
  simp only [Bool.not_eq_true', beq_eq_false_iff_ne] at hap ⊢
  unfold swapI
  split <;> split <;> (try split) <;> (try split) <;> omega
/-- It is enough to try the numbers below t. -/
def triedP (k : Nat) (d : Int) (xs : List Int) (t : Nat) : Prop := t = k ∨ (xs = [] ∧ t = 1 ∧ 1 ≤ k) ∨ (d = 1 ∧ t ≤ k ∧ 1 ≤ t ∧ ∀ i, i < xs.length → eI xs i < (t : Int) - 1)
theorem tried_other {n t : Nat} {xs ys : List Int} (hT : triedP k d xs t) (h : Wh k d M n ys) (hn : xs.length < n) : ∃ zs, Wh k d M n zs ∧ (∀ i, i < xs.length → eI ys i = eI xs i → eI zs i = eI xs i) ∧ eI zs xs.length < t := by
  have hy := h.2.1 xs.length (by rw [h.1]; exact hn)
  rcases hT with rfl | ⟨rfl, rfl, h1⟩ | ⟨rfl, h1, h2, h3⟩
  · exact ⟨ys, h, fun i _ e => e, hy.2⟩
  · refine ⟨_, wh_turn hy h, fun i hi => absurd hi (by simp), ?_⟩
    rw [eI_map (by rw [h.1]; exact hn)]
    unfold turnI
    rw [if_pos (Int.le_refl _)]
    omega
  · by_cases hlt : eI ys xs.length < t
    · exact ⟨ys, h, fun i _ e => e, hlt⟩
    · refine ⟨_, wh_swap (a := (t : Int) - 1) (b := eI ys xs.length) (by omega) hy h, fun i hi e => ?_, ?_⟩
      · rw [eI_map (by rw [h.1]; omega), e]
        have := h3 i hi
        unfold swapI
        rw [if_neg (by omega), if_neg (by omega)]
      · rw [eI_map (by rw [h.1]; exact hn)]
        unfold swapI
        rw [if_neg (by omega), if_pos rfl]
        omega
theorem badR_all {n t R : Nat} {xs : List Int} (hT : triedP k d xs t) (hn : xs.length < n) (hb : ∀ x, x < t → badX k d M n R xs x) : badR k d M n R xs := fun ys hw hy => by
  obtain ⟨zs, h1, h2, h3⟩ := tried_other hT hw hn
  have h4 := h1.2.1 xs.length (by rw [h1.1]; exact hn)
  obtain ⟨x, hx⟩ : ∃ x : Nat, eI zs xs.length = x := ⟨_, (Int.toNat_of_nonneg h4.1).symm⟩
  rw [hx] at h3
  exact hb x (by omega) zs h1 (fun i hi hR => h2 i hi (hy i hi hR)) hx

/-- The first of the numbers that are tried decides. -/
theorem srch_tried {n t r : Nat} {xs : List Int} (hs : suitP k d M xs) (hT : triedP k d xs t) (hn : xs.length + (r + 1) = n) (h : ∀ x : Nat, x < t → fitB k d M xs xs.length x = true → srch k d M r (xs ++ [(x : Int)]) = none) : srch k d M (r + 1) xs = none := by
  cases e : srch k d M (r + 1) xs with
  | none => rfl
  | some zs =>
    obtain ⟨h1, h2⟩ := srch_wh (r + 1) xs zs hs e
    rw [hn] at h1
    obtain ⟨ys, h3, h4, h5⟩ := tried_other hT h1 (by omega)
    have h6 := h3.2.1 xs.length (by rw [h3.1]; omega)
    obtain ⟨x, hx⟩ : ∃ x : Nat, eI ys xs.length = x := ⟨_, (Int.toNat_of_nonneg h6.1).symm⟩
    rw [hx] at h5
    have h7 := (suit_fit.1 h3.2).2 xs.length (by rw [h3.1]; omega)
    rw [hx, fitB_cong (fun i hi => h4 i hi (h2 i hi))] at h7
    have hla : (xs ++ [(x : Int)]).length = xs.length + 1 := by simp
    obtain ⟨us, hu⟩ := srch_has r (xs ++ [(x : Int)]) ys (by rw [hla, show xs.length + 1 + r = n by omega]; exact h3) (fun i hi => by
      rcases Nat.lt_or_ge i xs.length with h8 | h8
      · rw [eI_app_lt h8]; exact h4 i h8 (h2 i h8)
      · have h9 : i = xs.length := by omega
        rw [h9, eI_app_at, hx])
    rw [h x (by omega) h7] at hu
    cases hu
end

/-- The least list that suits. -/
def leastL (k : Nat) (d : Int) (M : Nat → Nat → Bool) (n : Nat) : Option (List Int) := srch k d M n []
theorem suit_nil (k d : Int) (M : Nat → Nat → Bool) : suitP k d M [] := ⟨fun i hi => absurd hi (by simp), fun i hi => absurd hi (by simp)⟩
/-- As many numbers as there are things are enough. -/
theorem least_enough (M : Nat → Nat → Bool) (n : Nat) : ∃ zs, leastL n 1 M n = some zs := by
  have hl : ((List.range n).map fun (i : Nat) => (i : Int)).length = n := by simp
  have he : ∀ i, i < n → eI ((List.range n).map fun (i : Nat) => (i : Int)) i = i := fun i hi => by
    rw [eI_lt (by simpa using hi)]
    simp
  refine srch_has n [] ((List.range n).map fun (i : Nat) => (i : Int)) ⟨by simp, fun i hi => ?_, fun i hi j hj _ => ?_⟩ (fun i hi => absurd hi (by simp))
  · rw [hl] at hi
    rw [he i hi]; omega
  · rw [hl] at hi
    rw [he i hi, he j (by omega), apart_one (by omega) (by omega)]
    simp only [Bool.not_eq_true', beq_eq_false_iff_ne]
    omega

end Go.Proofs.Ytonlpihbpbnnmaa
