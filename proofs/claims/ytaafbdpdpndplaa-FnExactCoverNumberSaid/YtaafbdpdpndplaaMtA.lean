/- All matchings, one after the other, as plain lists: the first vertex that is not met is on the next edge. No program is named here. -/
import Derived.Test.YtaafbdpdpndplaaFar
import Derived.Test.YtaafbdpdpndplaaInts
namespace Go.Proofs.Ytaafbdpdpndplaa
open Go.RowKit

/-- The first of N vertices that is not met, or N. -/
def lstF (ms : List Bool) : Nat → Nat
  | 0 => 0
  | N + 1 => if lstF ms N < N then lstF ms N else if eL ms N then N + 1 else N
theorem lstF_le (ms : List Bool) : ∀ N, lstF ms N ≤ N
  | 0 => Nat.le_refl _
  | N + 1 => by
    unfold lstF
    have := lstF_le ms N
    split
    · omega
    · split <;> omega
theorem lstF_met (ms : List Bool) : ∀ N i, i < lstF ms N → eL ms i = true
  | 0, i, h => absurd h (by simp [lstF])
  | N + 1, i, h => by
    unfold lstF at h
    have ih := lstF_met ms N
    have hl := lstF_le ms N
    split at h
    · exact ih i h
    · split at h
      · rename_i h1 h2
        by_cases e : i = N
        · rw [e]; exact h2
        · exact ih i (by omega)
      · exact ih i (by omega)
theorem lstF_free (ms : List Bool) : ∀ N, lstF ms N < N → eL ms (lstF ms N) = false
  | 0, h => absurd h (by omega)
  | N + 1, h => by
    unfold lstF at h ⊢
    have ih := lstF_free ms N
    split
    · rename_i h1
      exact ih h1
    · rename_i h1
      rw [if_neg h1] at h
      split
      · rename_i h2
        rw [if_pos h2] at h
        omega
      · rename_i h2
        simpa using h2
theorem lstF_is {ms : List Bool} {N i : Nat} (hi : i ≤ N) (h1 : ∀ j, j < i → eL ms j = true) (h2 : i < N → eL ms i = false) : lstF ms N = i := by
  rcases Nat.lt_trichotomy (lstF ms N) i with h | h | h
  · have h3 := lstF_free ms N (by omega)
    rw [h1 _ h] at h3
    cases h3
  · exact h
  · have h3 := lstF_met ms N i h
    rw [h2 (by have := lstF_le ms N; omega)] at h3
    cases h3

/-- How many of N vertices are not met. -/
def unmF (ms : List Bool) : Nat → Nat
  | 0 => 0
  | N + 1 => unmF ms N + if eL ms N then 0 else 1
theorem unmF_set {ms : List Bool} {v : Nat} (hv : v < ms.length) (h : eL ms v = false) : ∀ N, unmF (ms.set v true) N + (if v < N then 1 else 0) = unmF ms N
  | 0 => by simp [unmF]
  | N + 1 => by
    have ih := unmF_set hv h N
    unfold unmF
    rw [eL_set hv]
    by_cases e : N = v
    · subst e
      rw [if_pos rfl, h]
      simp at ih ⊢
      omega
    · rw [if_neg e]
      by_cases h3 : v < N
      · rw [if_pos h3] at ih
        rw [if_pos (show v < N + 1 by omega)]
        omega
      · rw [if_neg h3] at ih
        rw [if_neg (show ¬ v < N + 1 by omega)]
        omega
theorem unmF_zero {ms : List Bool} : ∀ {N}, unmF ms N = 0 → lstF ms N = N
  | 0, _ => rfl
  | N + 1, h => by
    unfold unmF at h
    have h1 := unmF_zero (ms := ms) (N := N) (by omega)
    have h2 : eL ms N = true := by
      cases e : eL ms N
      · rw [e] at h; simp at h
      · rfl
    unfold lstF
    rw [h1, if_neg (by omega), h2]
    rfl
theorem unmF_pos {ms : List Bool} : ∀ {N}, 0 < unmF ms N → lstF ms N < N
  | 0, h => absurd h (by simp [unmF])
  | N + 1, h => by
    unfold unmF at h
    unfold lstF
    by_cases h1 : lstF ms N < N
    · rw [if_pos h1]; omega
    · have h2 : unmF ms N = 0 := by
        rcases Nat.eq_zero_or_pos (unmF ms N) with h3 | h3
        · exact h3
        · exact absurd (unmF_pos h3) h1
      rw [if_neg h1]
      cases e : eL ms N
      · rw [if_neg (by simp)]; omega
      · rw [h2, e] at h; simp at h
theorem unmF_none : ∀ N, N ≤ 20 → unmF (List.replicate 20 false) N = N
  | 0, _ => rfl
  | N + 1, h => by
    unfold unmF
    have h0 : eL (List.replicate 20 false) N = false := by
      unfold eL
      rw [List.getD_eq_getElem?_getD, List.getElem?_replicate, if_pos (by omega)]
      rfl
    rw [unmF_none N (by omega), h0]
    rfl

/-- The marks behind one more edge. -/
def markV (ms : List Bool) (v w : Nat) : List Bool := (ms.set v true).set w true
theorem markV_len (ms : List Bool) (v w : Nat) : (markV ms v w).length = ms.length := by unfold markV; rw [List.length_set, List.length_set]
theorem markV_at {ms : List Bool} {v w i : Nat} (hv : v < ms.length) (hw : w < ms.length) : eL (markV ms v w) i = (eL ms i || decide (i = v) || decide (i = w)) := by
  unfold markV
  rw [eL_set (by rw [List.length_set]; exact hw), eL_set hv]
  by_cases h1 : i = w
  · simp [h1]
  · by_cases h2 : i = v
    · simp [h2]
    · simp [h1, h2]
theorem markV_unm {ms : List Bool} {v w N : Nat} (hl : N ≤ ms.length) (hv : v < N) (hw : w < N) (hvw : v ≠ w) (h1 : eL ms v = false) (h2 : eL ms w = false) : unmF (markV ms v w) N + 2 = unmF ms N := by
  have a := unmF_set (show v < ms.length by omega) h1 N
  have b := unmF_set (ms := ms.set v true) (v := w) (by rw [List.length_set]; omega) (by rw [eL_set (by omega), if_neg (fun e => hvw e.symm)]; exact h2) N
  rw [if_pos hv] at a
  rw [if_pos hw] at b
  unfold markV
  omega
theorem markV_ends {ms : List Bool} {v w x y : Nat} (h : (x = v ∧ y = w) ∨ (x = w ∧ y = v)) (hvw : v ≠ w) : (ms.set x true).set y true = markV ms v w := by
  rcases h with ⟨rfl, rfl⟩ | ⟨rfl, rfl⟩
  · rfl
  · unfold markV
    exact List.set_comm _ _ hvw.symm
theorem markV_off {ms : List Bool} {v w x y : Nat} (h : (x = v ∧ y = w) ∨ (x = w ∧ y = v)) (hvw : v ≠ w) (hv : v < ms.length) (hw : w < ms.length) (h1 : eL ms v = false) (h2 : eL ms w = false) : ((markV ms v w).set x false).set y false = ms := by
  have hx : x < ms.length := by omega
  have hy : y < ms.length := by omega
  apply List.ext_getElem (by simp [markV])
  intro i hi1 hi2
  have e1 : eL (((markV ms v w).set x false).set y false) i = eL ms i := by
    rw [eL_set (by rw [List.length_set, markV_len]; exact hy), eL_set (by rw [markV_len]; exact hx), markV_at hv hw]
    by_cases e2 : i = y
    · rw [if_pos e2]
      rcases h with ⟨_, h⟩ | ⟨_, h⟩ <;> rw [e2, h]
      · exact h2.symm
      · exact h1.symm
    · rw [if_neg e2]
      by_cases e3 : i = x
      · rw [if_pos e3]
        rcases h with ⟨h, _⟩ | ⟨h, _⟩ <;> rw [e3, h]
        · exact h1.symm
        · exact h2.symm
      · rw [if_neg e3]
        have : ¬ i = v ∧ ¬ i = w := by omega
        simp [this.1, this.2]
  rwa [eL_lt hi1, eL_lt hi2] at e1

/-- What the edges of a list add: each one whose other end is not met goes on. -/
def mtG (es : List (Int × Int)) (F : List Int → List Bool → List (List Int)) (v : Nat) (c : List Int) (ms : List Bool) (e : Nat) : List (List Int) :=
  if eL ms (othE es v e).toNat then [] else F (c ++ [(e : Int)]) (markV ms v (othE es v e).toNat)
/-- All ways to go on behind the edges c, with r edges more. -/
def mtF (N : Nat) (es : List (Int × Int)) : Nat → List Int → List Bool → List (List Int)
  | 0, c, _ => [c]
  | r + 1, c, ms => (onL es (lstF ms N)).flatMap (mtG es (mtF N es r) (lstF ms N) c ms)
theorem mtF_zero (N : Nat) (es : List (Int × Int)) (c : List Int) (ms : List Bool) : mtF N es 0 c ms = [c] := rfl
theorem mtF_succ (N : Nat) (es : List (Int × Int)) (r : Nat) (c : List Int) (ms : List Bool) : mtF N es (r + 1) c ms = (onL es (lstF ms N)).flatMap (mtG es (mtF N es r) (lstF ms N) c ms) := rfl
theorem mtG_yes {es : List (Int × Int)} {F : List Int → List Bool → List (List Int)} {v w e : Nat} {c : List Int} {ms : List Bool} (hw : othE es v e = w) (h : eL ms w = false) : mtG es F v c ms e = F (c ++ [(e : Int)]) (markV ms v w) := by
  unfold mtG
  rw [hw, Int.toNat_natCast, h, if_neg (by simp)]
theorem mtG_no {es : List (Int × Int)} {F : List Int → List Bool → List (List Int)} {v w e : Nat} {c : List Int} {ms : List Bool} (hw : othE es v e = w) (h : eL ms w = true) : mtG es F v c ms e = [] := by
  unfold mtG
  rw [hw, Int.toNat_natCast, h, if_pos rfl]
theorem mtF_len {N : Nat} {es : List (Int × Int)} : ∀ (r : Nat) (c : List Int) (ms : List Bool) (x : List Int), x ∈ mtF N es r c ms → x.length = c.length + r
  | 0, c, ms, x, h => by rw [mtF_zero, List.mem_singleton] at h; subst h; rfl
  | r + 1, c, ms, x, h => by
    rw [mtF_succ] at h
    obtain ⟨e, _, h2⟩ := List.mem_flatMap.1 h
    unfold mtG at h2
    split at h2
    · cases h2
    · have h3 := mtF_len r _ _ x h2
      rw [List.length_append, List.length_singleton] at h3
      omega
/-- All matchings of a graph with N vertices. -/
def mtL (N : Nat) (es : List (Int × Int)) : List (List Int) := mtF N es (N / 2) [] (List.replicate 20 false)

/-- What the edges of a list add, one after the other. -/
def mtQ (es : List (Int × Int)) (F : List Int → List Bool → List (List Int)) (v : Nat) (c : List Int) (ms : List Bool) (L : List Nat) : List (List Int) := L.flatMap (mtG es F v c ms)
theorem mtQ_snoc (es : List (Int × Int)) (F : List Int → List Bool → List (List Int)) (v : Nat) (c : List Int) (ms : List Bool) (L : List Nat) (e : Nat) : mtQ es F v c ms (L ++ [e]) = mtQ es F v c ms L ++ mtG es F v c ms e := by
  unfold mtQ
  rw [List.flatMap_append]
  simp
theorem mtQ_pre {es : List (Int × Int)} {F : List Int → List Bool → List (List Int)} {v : Nat} {c : List Int} {ms : List Bool} {L M : List Nat} (h : L <+: M) : mtQ es F v c ms L <+: mtQ es F v c ms M := by
  obtain ⟨z, rfl⟩ := h
  unfold mtQ
  rw [List.flatMap_append]
  exact ⟨_, rfl⟩
theorem mtG_le {es : List (Int × Int)} {F : List Int → List Bool → List (List Int)} {v e B : Nat} {c : List Int} {ms : List Bool} (h : ∀ c ms, (F c ms).length ≤ B) : (mtG es F v c ms e).length ≤ B := by
  unfold mtG
  split
  · simp
  · exact h _ _
theorem mtQ_le {es : List (Int × Int)} {F : List Int → List Bool → List (List Int)} {v B : Nat} {c : List Int} {ms : List Bool} (h : ∀ c ms, (F c ms).length ≤ B) : ∀ L : List Nat, (mtQ es F v c ms L).length ≤ L.length * B
  | [] => by simp [mtQ]
  | e :: L => by
    have h1 := mtQ_le (es := es) (v := v) (c := c) (ms := ms) h L
    have h2 := mtG_le (es := es) (v := v) (e := e) (c := c) (ms := ms) h
    unfold mtQ at h1 ⊢
    rw [List.flatMap_cons, List.length_append, List.length_cons, Nat.add_mul, Nat.one_mul]
    omega
theorem onL_le3 {N V : Nat} {es : List (Int × Int)} (g : IsG N es) (hV : V ≤ N) : (onL es (V : Int)).length ≤ 3 := by
  by_cases h : V < N
  · have h1 := atF_three g (v := (V : Int)) (by omega) (by omega)
    rw [onL_at, List.length_map] at h1
    omega
  · obtain rfl : V = N := by omega
    have : onL es (V : Int) = [] := by
      apply List.eq_nil_iff_forall_not_mem.2
      intro e he
      obtain ⟨h1, h2⟩ := onL_mem.1 he
      have h3 := g.1.2 e h1
      unfold onE at h2
      simp only [Bool.or_eq_true, beq_iff_eq] at h2
      have := h3.2.1
      have := h3.2.2.2.1
      omega
    rw [this]
    simp
theorem mtF_le {N : Nat} {es : List (Int × Int)} (g : IsG N es) : ∀ (r : Nat) (c : List Int) (ms : List Bool), (mtF N es r c ms).length ≤ 3 ^ r
  | 0, c, ms => by simp [mtF]
  | r + 1, c, ms => by
    have h1 := mtQ_le (es := es) (v := lstF ms N) (c := c) (ms := ms) (mtF_le g r) (onL es (lstF ms N))
    have h2 := onL_le3 g (lstF_le ms N)
    have h3 : (onL es (lstF ms N : Int)).length * 3 ^ r ≤ 3 * 3 ^ r := Nat.mul_le_mul_right _ h2
    show (mtQ es (mtF N es r) (lstF ms N) c ms (onL es (lstF ms N))).length ≤ _
    rw [Nat.pow_succ]
    omega

end Go.Proofs.Ytaafbdpdpndplaa
