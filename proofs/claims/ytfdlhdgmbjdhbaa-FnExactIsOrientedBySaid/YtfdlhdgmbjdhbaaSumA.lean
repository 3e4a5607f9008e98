/- Sums of sets, told by strictly ascending lists, and even sets of edges, as plain lists. No program is named here. -/
import Derived.Test.YtfdlhdgmbjdhbaaCutA
namespace Go.Proofs.Ytfdlhdgmbjdhbaa
open Go.RowKit

/-- What is in just one of two ascending lists, by merging. -/
def symmL : List Int → List Int → List Int
  | [], ys => ys
  | xs, [] => xs
  | x :: xs, y :: ys => if x < y then x :: symmL xs (y :: ys) else if y < x then y :: symmL (x :: xs) ys else symmL xs ys
termination_by xs ys => xs.length + ys.length

theorem symmL_nil_left (ys : List Int) : symmL [] ys = ys := by rw [symmL]
theorem symmL_nil_right (xs : List Int) : symmL xs [] = xs := by
  cases xs with
  | nil => rw [symmL]
  | cons x xs => rw [symmL]; exact List.cons_ne_nil _ _
theorem symmL_lt {x y : Int} {xs ys : List Int} (h : x < y) : symmL (x :: xs) (y :: ys) = x :: symmL xs (y :: ys) := by rw [symmL, if_pos h]
theorem symmL_gt {x y : Int} {xs ys : List Int} (h : y < x) : symmL (x :: xs) (y :: ys) = y :: symmL (x :: xs) ys := by rw [symmL, if_neg (by omega), if_pos h]
theorem symmL_eq {x : Int} {xs ys : List Int} : symmL (x :: xs) (x :: ys) = symmL xs ys := by rw [symmL, if_neg (by omega), if_neg (by omega)]
theorem symmL_len : ∀ xs ys : List Int, (symmL xs ys).length ≤ xs.length + ys.length := by
  intro xs ys
  induction xs, ys using symmL.induct with
  | case1 ys => rw [symmL_nil_left]; simp
  | case2 xs h => rw [symmL_nil_right]; simp
  | case3 x xs y ys h ih => rw [symmL_lt h]; simp only [List.length_cons] at *; omega
  | case4 x xs y ys h1 h ih => rw [symmL_gt h]; simp only [List.length_cons] at *; omega
  | case5 x xs y ys h1 h2 ih =>
    obtain rfl : x = y := by omega
    rw [symmL_eq]; simp only [List.length_cons] at *; omega

def Asc (xs : List Int) : Prop := xs.Pairwise (· < ·)
theorem asc_cons {x : Int} {xs : List Int} : Asc (x :: xs) ↔ (∀ y, y ∈ xs → x < y) ∧ Asc xs := List.pairwise_cons
theorem symmL_mem : ∀ xs ys : List Int, Asc xs → Asc ys → ∀ z, z ∈ symmL xs ys ↔ ((z ∈ xs ∧ z ∉ ys) ∨ (z ∉ xs ∧ z ∈ ys)) := by
  intro xs ys
  induction xs, ys using symmL.induct with
  | case1 ys => intro _ _ z; rw [symmL_nil_left]; simp
  | case2 xs h => intro _ _ z; rw [symmL_nil_right]; simp
  | case3 x xs y ys h ih =>
    intro h1 h2 z
    have i1 := asc_cons.1 h1
    have i2 := asc_cons.1 h2
    rw [symmL_lt h, List.mem_cons, ih i1.2 h2 z]
    by_cases e : z = x
    · subst e
      have n1 : z ∉ y :: ys := fun hm => by
        rcases List.mem_cons.1 hm with e | e
        · omega
        · have := i2.1 z e; omega
      simp [n1]
    · simp [e]
  | case4 x xs y ys h1 h ih =>
    intro g1 g2 z
    have i1 := asc_cons.1 g1
    have i2 := asc_cons.1 g2
    rw [symmL_gt h, List.mem_cons, ih g1 i2.2 z]
    by_cases e : z = y
    · subst e
      have n1 : z ∉ x :: xs := fun hm => by
        rcases List.mem_cons.1 hm with e | e
        · omega
        · have := i1.1 z e; omega
      simp [n1]
    · simp [e]
  | case5 x xs y ys h1 h2 ih =>
    intro g1 g2 z
    obtain rfl : x = y := by omega
    have i1 := asc_cons.1 g1
    have i2 := asc_cons.1 g2
    rw [symmL_eq, ih i1.2 i2.2 z]
    by_cases e : z = x
    · subst e
      have n1 : z ∉ xs := fun hm => by have := i1.1 z hm; omega
      have n2 : z ∉ ys := fun hm => by have := i2.1 z hm; omega
      simp [n1, n2]
    · simp [e]
theorem symmL_asc : ∀ xs ys : List Int, Asc xs → Asc ys → Asc (symmL xs ys) := by
  intro xs ys
  induction xs, ys using symmL.induct with
  | case1 ys => intro _ h; rw [symmL_nil_left]; exact h
  | case2 xs h => intro h _; rw [symmL_nil_right]; exact h
  | case3 x xs y ys h ih =>
    intro h1 h2
    have i1 := asc_cons.1 h1
    have i2 := asc_cons.1 h2
    rw [symmL_lt h]
    refine asc_cons.2 ⟨fun z hz => ?_, ih i1.2 h2⟩
    rcases (symmL_mem _ _ i1.2 h2 z).1 hz with ⟨e, _⟩ | ⟨_, e⟩
    · exact i1.1 z e
    · rcases List.mem_cons.1 e with e | e
      · omega
      · have := i2.1 z e; omega
  | case4 x xs y ys h1 h ih =>
    intro g1 g2
    have i1 := asc_cons.1 g1
    have i2 := asc_cons.1 g2
    rw [symmL_gt h]
    refine asc_cons.2 ⟨fun z hz => ?_, ih g1 i2.2⟩
    rcases (symmL_mem _ _ g1 i2.2 z).1 hz with ⟨e, _⟩ | ⟨_, e⟩
    · rcases List.mem_cons.1 e with e | e
      · omega
      · have := i1.1 z e; omega
    · exact i2.1 z e
  | case5 x xs y ys h1 h2 ih =>
    intro g1 g2
    obtain rfl : x = y := by omega
    rw [symmL_eq]
    exact ih (asc_cons.1 g1).2 (asc_cons.1 g2).2
/-- Ascending lists with the same members are one. -/
theorem asc_ext : ∀ {xs ys : List Int}, Asc xs → Asc ys → (∀ z, z ∈ xs ↔ z ∈ ys) → xs = ys
  | [], [], _, _, _ => rfl
  | [], y :: ys, _, _, h => by have := (h y).2 (by simp); simp at this
  | x :: xs, [], _, _, h => by have := (h x).1 (by simp); simp at this
  | x :: xs, y :: ys, h1, h2, h => by
    have i1 := asc_cons.1 h1
    have i2 := asc_cons.1 h2
    have e : x = y := by
      have a := (h x).1 (by simp)
      have b := (h y).2 (by simp)
      rcases List.mem_cons.1 a with a | a
      · exact a
      · rcases List.mem_cons.1 b with b | b
        · exact b.symm
        · have := i1.1 y b; have := i2.1 x a; omega
    subst e
    rw [asc_ext i1.2 i2.2 (fun z => by
      have hz := h z
      simp only [List.mem_cons] at hz
      by_cases e : z = x
      · subst e
        have n1 : z ∉ xs := fun hm => by have := i1.1 z hm; omega
        have n2 : z ∉ ys := fun hm => by have := i2.1 z hm; omega
        simp [n1, n2]
      · simpa [e] using hz)]
theorem symmL_is {xs ys zs : List Int} (hx : Asc xs) (hy : Asc ys) (hz : Asc zs) (h : ∀ z, z ∈ zs ↔ ((z ∈ xs ∧ z ∉ ys) ∨ (z ∉ xs ∧ z ∈ ys))) : symmL xs ys = zs :=
  asc_ext (symmL_asc _ _ hx hy) hz fun z => (symmL_mem _ _ hx hy z).trans (h z).symm

theorem set_asc {n : Int} : ∀ {xs : List Int}, isSetP n xs → Asc xs := by
  intro xs h
  refine List.pairwise_iff_getElem.2 fun i j hi hj hij => ?_
  have key : ∀ d, ∀ (hd : i + 1 + d < xs.length), xs[i] < xs[i + 1 + d] := by
    intro d
    induction d with
    | zero =>
      intro hd
      have h1 := (h (i + 1) hd).2 (by omega)
      rw [Nat.add_sub_cancel, eI_lt hi, eI_lt hd] at h1
      exact h1
    | succ d ih =>
      intro hd
      have h0 := ih (by omega)
      have h1 := (h (i + 1 + (d + 1)) hd).2 (by omega)
      rw [show i + 1 + (d + 1) - 1 = i + 1 + d by omega, eI_lt (by omega), eI_lt hd] at h1
      omega
  have := key (j - (i + 1)) (by omega)
  simpa [show i + 1 + (j - (i + 1)) = j by omega] using this
theorem set_mem {n : Int} {xs : List Int} (h : isSetP n xs) {z : Int} (hz : z ∈ xs) : 0 ≤ z ∧ z < n := by
  obtain ⟨i, hi, e⟩ := List.getElem_of_mem hz
  have := (h i hi).1
  rw [eI_lt hi, e] at this
  exact this
theorem set_len {N : Nat} {xs : List Int} (h : isSetP (N : Int) xs) : xs.length ≤ N := by
  have key : ∀ i, i < xs.length → (i : Int) ≤ eI xs i := by
    intro i
    induction i with
    | zero => intro hi; exact (h 0 hi).1.1
    | succ i ih =>
      intro hi
      have h1 := ih (by omega)
      have h2 := (h (i + 1) hi).2 (by omega)
      rw [Nat.add_sub_cancel] at h2
      omega
  rcases Nat.eq_zero_or_pos xs.length with h0 | h0
  · omega
  · have h1 := key (xs.length - 1) (by omega)
    have h2 := (h (xs.length - 1) (by omega)).1.2
    omega

/-- The numbers below k with a mark, ascending. -/
def numsB (p : Nat → Bool) (k : Nat) : List Int := ((List.range k).filter p).map fun (i : Nat) => (i : Int)
theorem numsB_yes {p : Nat → Bool} {k : Nat} (h : p k = true) : numsB p (k + 1) = numsB p k ++ [(k : Int)] := by
  unfold numsB
  rw [List.range_succ, List.filter_append, List.map_append]
  simp [h]
theorem numsB_no {p : Nat → Bool} {k : Nat} (h : p k = false) : numsB p (k + 1) = numsB p k := by
  unfold numsB
  rw [List.range_succ, List.filter_append, List.map_append]
  simp [h]
theorem numsB_len (p : Nat → Bool) (k : Nat) : (numsB p k).length ≤ k := by
  unfold numsB
  rw [List.length_map]
  exact Nat.le_trans (List.length_filter_le _ _) (by simp)
theorem numsB_mem {p : Nat → Bool} {k : Nat} {z : Int} : z ∈ numsB p k ↔ ∃ i : Nat, i < k ∧ p i = true ∧ z = i := by
  unfold numsB
  simp only [List.mem_map, List.mem_filter, List.mem_range]
  constructor
  · rintro ⟨i, ⟨h1, h2⟩, rfl⟩; exact ⟨i, h1, h2, rfl⟩
  · rintro ⟨i, h1, h2, rfl⟩; exact ⟨i, ⟨h1, h2⟩, rfl⟩
theorem numsB_asc (p : Nat → Bool) : ∀ k, Asc (numsB p k)
  | 0 => List.Pairwise.nil
  | k + 1 => by
    cases h : p k
    · rw [numsB_no h]; exact numsB_asc p k
    · rw [numsB_yes h]
      unfold Asc
      rw [List.pairwise_append]
      refine ⟨numsB_asc p k, by simp, fun a ha b hb => ?_⟩
      obtain ⟨i, hi, _, rfl⟩ := numsB_mem.1 ha
      simp at hb
      omega

/-- The numbers in just one of two sets. -/
def oneB (a b : List Int) (e : Nat) : Bool := decide ((e : Int) ∈ a) != decide ((e : Int) ∈ b)
def sumU (a b : List Int) (k : Nat) : List Int := numsB (oneB a b) k
theorem sum_symm {N : Nat} {a b : List Int} (ha : isSetP (N : Int) a) (hb : isSetP (N : Int) b) : symmL a b = sumU a b N := by
  refine symmL_is (set_asc ha) (set_asc hb) (numsB_asc _ _) fun z => ?_
  rw [show sumU a b N = numsB (oneB a b) N from rfl, numsB_mem]
  constructor
  · rintro ⟨i, hi, h, rfl⟩
    unfold oneB at h
    by_cases h1 : (i : Int) ∈ a <;> by_cases h2 : (i : Int) ∈ b <;> simp [h1, h2] at h ⊢
  · intro h
    have hz : 0 ≤ z ∧ z < N := by
      rcases h with h | h
      · exact set_mem ha h.1
      · exact set_mem hb h.2
    refine ⟨z.toNat, by omega, ?_, by omega⟩
    unfold oneB
    rw [show ((z.toNat : Nat) : Int) = z by omega]
    rcases h with ⟨h1, h2⟩ | ⟨h1, h2⟩ <;> simp [h1, h2]

def fSumOfSets (s : Int) (es : List (Int × Int)) (a b : List Int) : List Int × Int := if IsG s es then (if isSetP es.length a then (if isSetP es.length b then (sumU a b es.length, 0) else ([], 2)) else ([], 2)) else ([], 1)
theorem fSumOfSets_len (s : Int) (es : List (Int × Int)) (a b : List Int) (h : es.length ≤ 1048576) (_ : a.length ≤ 1048576) (_ : b.length ≤ 1048576) : (fSumOfSets s es a b).1.length ≤ 1048576 := by
  unfold fSumOfSets
  split
  · split
    · split
      · exact Nat.le_trans (numsB_len _ _) h
      · simp
    · simp
  · simp

/-- How many of the first k edges of a list have a vertex as an end. -/
def cntP (es : List (Int × Int)) (xs : List Int) (k : Nat) (v : Int) : Nat := ((List.range k).filter fun i => onE es v (eI xs i).toNat).length
theorem cntP_succ (es : List (Int × Int)) (xs : List Int) (k : Nat) (v : Int) : cntP es xs (k + 1) v = cntP es xs k v + if onE es v (eI xs k).toNat = true then 1 else 0 := by
  unfold cntP
  rw [List.range_succ, List.filter_append, List.length_append]
  by_cases h : onE es v (eI xs k).toNat = true <;> simp [h]
theorem cntP_le (es : List (Int × Int)) (xs : List Int) (k : Nat) (v : Int) : cntP es xs k v ≤ k := by
  unfold cntP
  have := List.length_filter_le (fun i => onE es v (eI xs i).toNat) (List.range k)
  simpa using this
/-- The vertices that are on an odd number of the first k edges. -/
def oddU (N : Nat) (es : List (Int × Int)) (xs : List Int) (k : Nat) : List Int := numsB (fun v => decide (cntP es xs k (v : Int) % 2 = 1)) N
def evenP (N : Nat) (es : List (Int × Int)) (xs : List Int) : Prop := ∀ v, v < N → cntP es xs xs.length (v : Int) % 2 = 0
instance (N : Nat) (es : List (Int × Int)) (xs : List Int) : Decidable (evenP N es xs) := by unfold evenP; infer_instance
theorem oddU_zero (N : Nat) (es : List (Int × Int)) (xs : List Int) : oddU N es xs 0 = [] := by
  unfold oddU numsB cntP
  simp
theorem oddU_even (N : Nat) (es : List (Int × Int)) (xs : List Int) : (oddU N es xs xs.length).length = 0 ↔ evenP N es xs := by
  unfold evenP
  rw [List.length_eq_zero_iff]
  constructor
  · intro h v hv
    rcases Nat.mod_two_eq_zero_or_one (cntP es xs xs.length (v : Int)) with h1 | h1
    · exact h1
    · have : (v : Int) ∈ oddU N es xs xs.length := numsB_mem.2 ⟨v, hv, by simpa using h1, rfl⟩
      rw [h] at this
      simp at this
  · intro h
    refine List.eq_nil_iff_forall_not_mem.2 fun z hz => ?_
    obtain ⟨i, hi, h1, _⟩ := numsB_mem.1 hz
    have := h i hi
    simp at h1
    omega
theorem oddU_step {N : Nat} {es : List (Int × Int)} {xs : List Int} {k E X Y : Nat} (hE : eI xs k = E) (hX : eA es E = X) (hY : eB es E = Y) (hXY : X < Y) (hYN : Y < N) : symmL (oddU N es xs k) [(X : Int), (Y : Int)] = oddU N es xs (k + 1) := by
  refine symmL_is (numsB_asc _ _) (by unfold Asc; simp; omega) (numsB_asc _ _) fun z => ?_
  have hm : ∀ j, z ∈ oddU N es xs j ↔ ∃ i : Nat, i < N ∧ cntP es xs j (i : Int) % 2 = 1 ∧ z = i := fun j => by
    unfold oddU
    rw [numsB_mem]
    simp
  have hc : ∀ v : Int, cntP es xs (k + 1) v = cntP es xs k v + if (v = X ∨ v = Y) then 1 else 0 := fun v => by
    rw [cntP_succ, hE, Int.toNat_natCast]
    have : (onE es v E = true) = (v = X ∨ v = Y) := by
      unfold onE
      rw [hX, hY]
      simp only [Bool.or_eq_true, beq_iff_eq, eq_iff_iff]
      omega
    simp only [this]
  have hp : z ∈ [(X : Int), (Y : Int)] ↔ z = X ∨ z = Y := by simp
  rw [hm, hm, hp]
  constructor
  · rintro ⟨i, hi, h1, rfl⟩
    rw [hc] at h1
    by_cases h2 : (i : Int) = X ∨ (i : Int) = Y
    · rw [if_pos h2] at h1
      refine .inr ⟨?_, h2⟩
      rintro ⟨j, _, h3, h4⟩
      obtain rfl : i = j := by omega
      omega
    · rw [if_neg h2] at h1
      exact .inl ⟨⟨i, hi, by omega, rfl⟩, h2⟩
  · rintro (⟨⟨i, hi, h1, rfl⟩, h2⟩ | ⟨h1, h2⟩)
    · exact ⟨i, hi, by rw [hc, if_neg h2]; omega, rfl⟩
    · rcases h2 with rfl | rfl
      · refine ⟨X, by omega, ?_, rfl⟩
        rw [hc, if_pos (.inl rfl)]
        have : ¬ cntP es xs k (X : Int) % 2 = 1 := fun h => h1 ⟨X, by omega, h, rfl⟩
        omega
      · refine ⟨Y, by omega, ?_, rfl⟩
        rw [hc, if_pos (.inr rfl)]
        have : ¬ cntP es xs k (Y : Int) % 2 = 1 := fun h => h1 ⟨Y, by omega, h, rfl⟩
        omega

def fIsEvenSet (s : Int) (es : List (Int × Int)) (xs : List Int) : Bool × Int := if IsG s es then (if isSetP es.length xs then (decide (evenP s.toNat es xs), 0) else (false, 2)) else (false, 1)

end Go.Proofs.Ytfdlhdgmbjdhbaa
