/- Covers by matchings, plainly; sets of edges as numbers. No program is named here. -/
import Derived.Test.YtaafbdpdpndplaaMtA
import Derived.Laws.BitsAllLaws
namespace Go.Proofs.Ytaafbdpdpndplaa
open Go.RowKit

/-- The marks with those of a list. -/
def mkC (cov : List Bool) (x : List Int) : List Bool := x.foldl (fun c y => c.set y.toNat true) cov
theorem mkC_len : ∀ (x : List Int) (cov : List Bool), (mkC cov x).length = cov.length
  | [], _ => rfl
  | y :: x, cov => by
    show (mkC (cov.set y.toNat true) x).length = _
    rw [mkC_len x, List.length_set]
theorem mkC_snoc (cov : List Bool) (x : List Int) (y : Int) : mkC cov (x ++ [y]) = (mkC cov x).set y.toNat true := by
  unfold mkC
  rw [List.foldl_append]
  rfl
theorem mkC_at : ∀ (x : List Int) (cov : List Bool) (i : Nat), (∀ y, y ∈ x → 0 ≤ y ∧ y < cov.length) → eL (mkC cov x) i = (eL cov i || decide ((i : Int) ∈ x))
  | [], cov, i, _ => by
    show eL cov i = _
    simp
  | y :: x, cov, i, h => by
    have h1 := h y (List.mem_cons_self ..)
    show eL (mkC (cov.set y.toNat true) x) i = _
    rw [mkC_at x (cov.set y.toNat true) i (fun z hz => by rw [List.length_set]; exact h z (List.mem_cons_of_mem _ hz)), eL_set (by omega)]
    by_cases e : i = y.toNat
    · have e2 : (i : Int) = y := by omega
      rw [if_pos e]
      simp [e2]
    · have e2 : ¬ (i : Int) = y := by omega
      rw [if_neg e]
      simp [e2]
theorem unmF_mono {a b : List Bool} : ∀ {N}, (∀ i, i < N → eL a i = true → eL b i = true) → unmF b N ≤ unmF a N
  | 0, _ => Nat.le_refl _
  | N + 1, h => by
    have h1 := unmF_mono (N := N) (a := a) (b := b) (fun i hi => h i (by omega))
    have h2 := h N (by omega)
    unfold unmF
    cases e : eL a N
    · rw [if_neg (show ¬ (false = true) by simp)]
      split <;> omega
    · rw [if_pos (h2 e), if_pos rfl]
      omega
theorem unmF_strict {a b : List Bool} {e : Nat} (ha : eL a e = false) (hb : eL b e = true) : ∀ {N}, (∀ i, i < N → eL a i = true → eL b i = true) → e < N → unmF b N + 1 ≤ unmF a N
  | 0, _, h => absurd h (by omega)
  | N + 1, h, he => by
    unfold unmF
    by_cases e1 : e = N
    · subst e1
      have h1 := unmF_mono (N := e) (a := a) (b := b) (fun i hi => h i (by omega))
      rw [ha, hb]
      simp
      omega
    · have h1 := unmF_strict ha hb (N := N) (fun i hi => h i (by omega)) (by omega)
      have h2 := h N (by omega)
      cases e : eL a N
      · rw [if_neg (show ¬ (false = true) by simp)]
        split <;> omega
      · rw [if_pos (h2 e), if_pos rfl]
        omega
theorem unmF_set1 {ms : List Bool} {v : Nat} (hv : v < ms.length) (N : Nat) : unmF ms N ≤ unmF (ms.set v true) N + 1 := by
  cases h : eL ms v
  · have := unmF_set hv h N
    split at this <;> omega
  · have := unmF_mono (N := N) (a := ms.set v true) (b := ms) (fun i _ hi => by
      rw [eL_set hv] at hi
      by_cases e : i = v
      · rw [e]; exact h
      · rwa [if_neg e] at hi)
    omega
theorem mkC_unm {n : Nat} : ∀ (x : List Int) (cov : List Bool), (∀ y, y ∈ x → 0 ≤ y ∧ y < cov.length) → unmF cov n ≤ unmF (mkC cov x) n + x.length
  | [], cov, _ => Nat.le_refl _
  | y :: x, cov, h => by
    have h1 := h y (List.mem_cons_self ..)
    have h2 := unmF_set1 (ms := cov) (v := y.toNat) (by omega) n
    have h3 := mkC_unm (n := n) x (cov.set y.toNat true) (fun z hz => by rw [List.length_set]; exact h z (List.mem_cons_of_mem _ hz))
    show unmF cov n ≤ unmF (mkC (cov.set y.toNat true) x) n + (x.length + 1)
    omega
theorem lstF_unm {ms : List Bool} {N : Nat} (h : lstF ms N = N) : unmF ms N = 0 := by
  rcases Nat.eq_zero_or_pos (unmF ms N) with h1 | h1
  · exact h1
  · have := unmF_pos h1
    omega
theorem unmF_fresh (n : Nat) : ∀ N, N ≤ n → unmF (List.replicate n false) N = N
  | 0, _ => rfl
  | N + 1, h => by
    unfold unmF
    have h0 : eL (List.replicate n false) N = false := by
      unfold eL
      rw [List.getD_eq_getElem?_getD, List.getElem?_replicate, if_pos (by omega)]
      rfl
    rw [unmF_fresh n N (by omega), h0]
    rfl

/-- k lists more cover what is left of n. -/
def covB (Us : List (List Int)) (n : Nat) : Nat → List Bool → Bool
  | 0, cov => decide (lstF cov n = n)
  | k + 1, cov => decide (lstF cov n = n) || Us.any fun x => decide (((lstF cov n : Nat) : Int) ∈ x) && covB Us n k (mkC cov x)
theorem covB_zero (Us : List (List Int)) (n : Nat) (cov : List Bool) : covB Us n 0 cov = decide (lstF cov n = n) := rfl
theorem covB_succ (Us : List (List Int)) (n k : Nat) (cov : List Bool) : covB Us n (k + 1) cov = (decide (lstF cov n = n) || Us.any fun x => decide (((lstF cov n : Nat) : Int) ∈ x) && covB Us n k (mkC cov x)) := rfl
theorem covB_done {Us : List (List Int)} {n : Nat} (k : Nat) {cov : List Bool} (h : lstF cov n = n) : covB Us n k cov = true := by
  cases k
  · rw [covB_zero, decide_eq_true h]
  · rw [covB_succ, decide_eq_true h, Bool.true_or]
theorem covB_go {Us : List (List Int)} {n k : Nat} {cov : List Bool} (h : lstF cov n ≠ n) : covB Us n (k + 1) cov = Us.any fun x => decide (((lstF cov n : Nat) : Int) ∈ x) && covB Us n k (mkC cov x) := by
  rw [covB_succ, decide_eq_false h, Bool.false_or]
theorem covB_few {Us : List (List Int)} {n H : Nat} (hU : ∀ x, x ∈ Us → x.length = H) (hin : ∀ x, x ∈ Us → ∀ y, y ∈ x → 0 ≤ y ∧ y < (n : Int)) : ∀ (k : Nat) (cov : List Bool), cov.length = n → k * H < unmF cov n → covB Us n k cov = false
  | 0, cov, _, h => by
    rw [covB_zero]
    exact decide_eq_false fun e => by rw [lstF_unm e] at h; omega
  | k + 1, cov, hl, h => by
    rw [covB_go (fun e => by rw [lstF_unm e] at h; omega)]
    rw [List.any_eq_false]
    intro x hx
    have h1 := mkC_unm (n := n) x cov (by rw [hl]; exact hin x hx)
    rw [hU x hx] at h1
    have h3 : (k + 1) * H = k * H + H := Nat.succ_mul k H
    have h2 := covB_few hU hin k (mkC cov x) (by rw [mkC_len, hl]) (by omega)
    rw [h2, Bool.and_false]
    simp
theorem covB_most {Us : List (List Int)} {n : Nat} (hU : ∀ e, e < n → ∃ x, x ∈ Us ∧ (e : Int) ∈ x) (hin : ∀ x, x ∈ Us → ∀ y, y ∈ x → 0 ≤ y ∧ y < (n : Int)) : ∀ (k : Nat) (cov : List Bool), cov.length = n → unmF cov n ≤ k → covB Us n k cov = true
  | 0, cov, _, h => covB_done 0 (unmF_zero (by omega))
  | k + 1, cov, hl, h => by
    by_cases e : lstF cov n = n
    · exact covB_done _ e
    · have hlt : lstF cov n < n := by have := lstF_le cov n; omega
      obtain ⟨x, hx, hex⟩ := hU _ hlt
      have hinx := hin x hx
      rw [covB_go e]
      rw [List.any_eq_true]
      refine ⟨x, hx, ?_⟩
      have h1 := unmF_strict (a := cov) (b := mkC cov x) (e := lstF cov n) (lstF_free cov n hlt) (by rw [mkC_at x cov _ (by rw [hl]; exact hinx), decide_eq_true hex, Bool.or_true]) (N := n) (fun i _ hi => by rw [mkC_at x cov _ (by rw [hl]; exact hinx), hi, Bool.true_or]) hlt
      rw [decide_eq_true hex, Bool.true_and]
      exact covB_most hU hin k _ (by rw [mkC_len, hl]) (by omega)

/-- The first number up to n for which a test holds. -/
def fstK (f : Nat → Bool) : Nat → Nat
  | 0 => 0
  | n + 1 => if f 0 then 0 else fstK (fun k => f (k + 1)) n + 1
theorem fstK_is : ∀ (n k : Nat) (f : Nat → Bool), k ≤ n → f k = true → (∀ j, j < k → f j = false) → fstK f n = k
  | 0, k, f, h, _, _ => by
    unfold fstK
    omega
  | n + 1, 0, f, _, h1, _ => by
    unfold fstK
    rw [if_pos h1]
  | n + 1, k + 1, f, h, h1, h2 => by
    unfold fstK
    rw [h2 0 (by omega), if_neg (by simp), fstK_is n k (fun j => f (j + 1)) (by omega) h1 (fun j hj => h2 (j + 1) (by omega))]
/-- The least number of lists that cover n. -/
def covN (Us : List (List Int)) (n : Nat) : Nat := fstK (fun k => covB Us n k (List.replicate n false)) n

/-- A number's digits are the numbers that are not marked. -/
def MissM (M : Nat) (cov : List Bool) (n : Nat) : Prop := ∀ i, M.testBit i = (decide (i < n) && !(eL cov i))
theorem MissM.lt {M n : Nat} {cov : List Bool} (h : MissM M cov n) : M < 2 ^ n := by
  refine Nat.lt_pow_two_of_testBit _ fun i hi => ?_
  rw [h i, decide_eq_false (by omega), Bool.false_and]
theorem MissM.lt64 {M n : Nat} {cov : List Bool} (h : MissM M cov n) (hn : n ≤ 30) : M < 1073741824 := Nat.lt_of_lt_of_le h.lt (Nat.le_trans (Nat.pow_le_pow_right (by omega) hn) (by decide))
theorem MissM.zero {M n : Nat} {cov : List Bool} (h : MissM M cov n) : M = 0 ↔ lstF cov n = n := by
  constructor
  · intro e
    refine lstF_is (Nat.le_refl _) (fun j hj => ?_) (fun h => absurd h (by omega))
    have h1 := h j
    rw [e, Nat.zero_testBit, decide_eq_true hj, Bool.true_and] at h1
    cases h2 : eL cov j
    · rw [h2] at h1; cases h1
    · rfl
  · intro e
    refine Nat.eq_of_testBit_eq fun i => ?_
    rw [h i, Nat.zero_testBit]
    by_cases hi : i < n
    · rw [lstF_met cov n i (by omega)]
      simp
    · rw [decide_eq_false hi, Bool.false_and]
theorem low_bit {M l : Nat} (h1 : M.testBit l = true) (h2 : ∀ j, j < l → M.testBit j = false) : ∃ q, M = 2 ^ l * (2 * q + 1) := by
  have hm : M % 2 ^ l = 0 := by
    refine Nat.eq_of_testBit_eq fun i => ?_
    rw [Nat.testBit_mod_two_pow, Nat.zero_testBit]
    by_cases hi : i < l
    · rw [h2 i hi, Bool.and_false]
    · rw [decide_eq_false hi, Bool.false_and]
  have h3 := Nat.div_add_mod M (2 ^ l)
  rw [hm, Nat.add_zero] at h3
  rw [Nat.testBit_eq_decide_div_mod_eq] at h1
  have h4 := of_decide_eq_true h1
  refine ⟨M / 2 ^ l / 2, ?_⟩
  have h5 := Nat.div_add_mod (M / 2 ^ l) 2
  rw [h4] at h5
  rw [h5]
  exact h3.symm
theorem low_and {M l : Nat} (hM : M < 18446744073709551616) (hl : l < 64) (h1 : M.testBit l = true) (h2 : ∀ j, j < l → M.testBit j = false) : M &&& (18446744073709551616 - M) = 2 ^ l := by
  obtain ⟨q, hq⟩ := low_bit h1 h2
  have hp : 0 < 2 ^ l := Nat.pow_pos (by omega)
  have hM0 : 2 ^ l * (2 * q + 1) = 2 ^ l * (2 * q) + 2 ^ l := by rw [Nat.mul_add, Nat.mul_one]
  have hX : M = (2 ^ l * (2 * q) + (2 ^ l - 1)) + 1 := by omega
  refine Nat.eq_of_testBit_eq fun i => ?_
  have hY : 18446744073709551616 - M = 2 ^ 64 - ((2 ^ l * (2 * q) + (2 ^ l - 1)) + 1) := by rw [← hX]
  rw [Nat.testBit_and, hY, Nat.testBit_two_pow_sub_succ (by rw [show (2 : Nat) ^ 64 = 18446744073709551616 by decide]; omega), Nat.testBit_two_pow_mul_add _ (by omega), Nat.testBit_two_pow_sub_one, Nat.testBit_two_pow]
  rcases Nat.lt_trichotomy i l with h | h | h
  · rw [h2 i h, Bool.false_and, decide_eq_false (by omega)]
  · subst h
    rw [h1, if_neg (by omega), Nat.sub_self, decide_eq_true hl, decide_eq_true rfl]
    simp [Nat.testBit_zero]
  · rw [if_neg (by omega), decide_eq_false (show ¬ l = i by omega)]
    have h5 : M.testBit i = (2 * q + 1).testBit (i - l) := by
      rw [hq, ← Nat.add_zero (2 ^ l * (2 * q + 1)), Nat.testBit_two_pow_mul_add _ hp, if_neg (by omega)]
    obtain ⟨d, hd⟩ : ∃ d, i - l = d + 1 := ⟨i - l - 1, by omega⟩
    have h6 : (2 * q + 1).testBit (d + 1) = q.testBit d := by rw [Nat.testBit_succ, show (2 * q + 1) / 2 = q by omega]
    have h7 : (2 * q).testBit (d + 1) = q.testBit d := by rw [Nat.testBit_succ, show 2 * q / 2 = q by omega]
    rw [h5, hd, h6, h7]
    cases q.testBit d <;> simp

/-- A number's digits are the numbers of a list. -/
def SetM (S : Nat) (x : List Int) : Prop := ∀ i : Nat, S.testBit i = decide ((i : Int) ∈ x)
theorem setM_nil : SetM 0 [] := fun i => by simp
theorem SetM.snoc {S e : Nat} {x : List Int} (h : SetM S x) : SetM (S ||| 2 ^ e) (x ++ [(e : Int)]) := fun i => by
  rw [Nat.testBit_or, h i, Nat.testBit_two_pow]
  by_cases he : e = i
  · subst he; simp
  · have h2 : ¬ (i : Int) = (e : Int) := by omega
    simp [he, h2]
theorem SetM.lt {S n : Nat} {x : List Int} (h : SetM S x) (hx : ∀ y, y ∈ x → y < (n : Int)) : S < 2 ^ n := by
  refine Nat.lt_pow_two_of_testBit _ fun i hi => ?_
  rw [h i]
  exact decide_eq_false fun e => by have := hx _ e; omega
theorem small30 {S n : Nat} (h : S < 2 ^ n) (hn : n ≤ 30) : S < 1073741824 := Nat.lt_of_lt_of_le h (Nat.le_trans (Nat.pow_le_pow_right (by omega) hn) (by decide))
theorem SetM.hit {S l : Nat} {x : List Int} (h : SetM S x) : S &&& 2 ^ l = 0 ↔ ¬ (l : Int) ∈ x := by
  constructor
  · intro e hx
    have h1 : (S &&& 2 ^ l).testBit l = true := by rw [Nat.testBit_and, h l, decide_eq_true hx, Nat.testBit_two_pow, decide_eq_true rfl]; rfl
    rw [e, Nat.zero_testBit] at h1
    cases h1
  · intro hx
    refine Nat.eq_of_testBit_eq fun i => ?_
    rw [Nat.testBit_and, h i, Nat.testBit_two_pow, Nat.zero_testBit]
    by_cases e : l = i
    · subst e
      rw [decide_eq_false hx, Bool.false_and]
    · rw [decide_eq_false e, Bool.and_false]
theorem MissM.less {M S n : Nat} {cov : List Bool} {x : List Int} (h : MissM M cov n) (hs : SetM S x) (hS : S < 18446744073709551616) (hn : n ≤ 60) (hl : cov.length = n) (hx : ∀ y, y ∈ x → 0 ≤ y ∧ y < (n : Int)) : MissM (M &&& (18446744073709551615 - S)) (mkC cov x) n := fun i => by
  have h1 : 18446744073709551615 - S = 2 ^ 64 - (S + 1) := by rw [show (2 : Nat) ^ 64 = 18446744073709551616 by decide]; omega
  rw [Nat.testBit_and, h1, Nat.testBit_two_pow_sub_succ (by rw [show (2 : Nat) ^ 64 = 18446744073709551616 by decide]; exact hS), h i, hs i, mkC_at x cov i (by rw [hl]; exact hx)]
  by_cases hi : i < n
  · rw [decide_eq_true hi, decide_eq_true (show i < 64 by omega)]
    cases eL cov i <;> simp
  · rw [decide_eq_false hi, Bool.false_and, Bool.false_and, Bool.false_and]
theorem missM_all (n : Nat) : MissM (2 ^ n - 1) (List.replicate n false) n := fun i => by
  rw [Nat.testBit_two_pow_sub_one]
  by_cases hi : i < n
  · have h0 : eL (List.replicate n false) i = false := by
      unfold eL
      rw [List.getD_eq_getElem?_getD, List.getElem?_replicate, if_pos hi]
      rfl
    rw [h0, Bool.not_false, Bool.and_true]
  · rw [decide_eq_false hi, Bool.false_and]

/-- A number's digits are the numbers of the first lists. -/
def UniM (S : Nat) (Us : List (List Int)) (k : Nat) : Prop := ∀ i : Nat, S.testBit i = (Us.take k).any fun x => decide ((i : Int) ∈ x)
theorem uniM_nil (Us : List (List Int)) : UniM 0 Us 0 := fun i => by simp
theorem UniM.next {S T k : Nat} {Us : List (List Int)} {x : List Int} (h : UniM S Us k) (hk : Us[k]? = some x) (hT : SetM T x) : UniM (S ||| T) Us (k + 1) := fun i => by
  rw [Nat.testBit_or, h i, hT i, List.take_add_one, hk]
  simp
theorem UniM.lt {S k n : Nat} {Us : List (List Int)} (h : UniM S Us k) (hin : ∀ x, x ∈ Us → ∀ y, y ∈ x → 0 ≤ y ∧ y < (n : Int)) : S < 2 ^ n := by
  refine Nat.lt_pow_two_of_testBit _ fun i hi => ?_
  rw [h i]
  rw [List.any_eq_false]
  intro x hx
  have := fun e => (hin x (List.mem_of_mem_take hx) (i : Int) e).2
  simp
  intro e
  have := this e
  omega
/-- Each of n numbers is in one of the lists. -/
def AllIn (Us : List (List Int)) (n : Nat) : Prop := ∀ e, e < n → ∃ x, x ∈ Us ∧ (e : Int) ∈ x
theorem UniM.all {S n : Nat} {Us : List (List Int)} (h : UniM S Us Us.length) (hin : ∀ x, x ∈ Us → ∀ y, y ∈ x → 0 ≤ y ∧ y < (n : Int)) : S = 2 ^ n - 1 ↔ AllIn Us n := by
  constructor
  · intro e i hi
    have h1 := h i
    rw [e, Nat.testBit_two_pow_sub_one, decide_eq_true hi, List.take_length] at h1
    obtain ⟨x, h2, h3⟩ := List.any_eq_true.1 h1.symm
    exact ⟨x, h2, of_decide_eq_true h3⟩
  · intro hA
    refine Nat.eq_of_testBit_eq fun i => ?_
    rw [h i, Nat.testBit_two_pow_sub_one, List.take_length]
    by_cases hi : i < n
    · rw [decide_eq_true hi]
      obtain ⟨x, h2, h3⟩ := hA i hi
      exact List.any_eq_true.2 ⟨x, h2, decide_eq_true h3⟩
    · rw [decide_eq_false hi, List.any_eq_false]
      intro x hx e
      have := (hin x hx (i : Int) (of_decide_eq_true e)).2
      omega

theorem mtF_in {N : Nat} {es : List (Int × Int)} : ∀ (r : Nat) (c : List Int) (ms : List Bool) (x : List Int), x ∈ mtF N es r c ms → ∀ y, y ∈ x → y ∈ c ∨ (0 ≤ y ∧ y < (es.length : Int))
  | 0, c, ms, x, h, y, hy => by rw [mtF_zero, List.mem_singleton] at h; subst h; exact .inl hy
  | r + 1, c, ms, x, h, y, hy => by
    rw [mtF_succ] at h
    obtain ⟨e, he, h2⟩ := List.mem_flatMap.1 h
    have h5 := (onL_mem.1 he).1
    unfold mtG at h2
    split at h2
    · cases h2
    · rcases mtF_in r _ _ x h2 y hy with h3 | h3
      · rcases List.mem_append.1 h3 with h4 | h4
        · exact .inl h4
        · rw [List.mem_singleton] at h4
          exact .inr (by omega)
      · exact .inr h3
theorem mtL_in {N : Nat} {es : List (Int × Int)} {x : List Int} (h : x ∈ mtL N es) : ∀ y, y ∈ x → 0 ≤ y ∧ y < (es.length : Int) := fun y hy => by
  rcases mtF_in _ _ _ _ h y hy with h1 | h1
  · cases h1
  · exact h1

end Go.Proofs.Ytaafbdpdpndplaa
