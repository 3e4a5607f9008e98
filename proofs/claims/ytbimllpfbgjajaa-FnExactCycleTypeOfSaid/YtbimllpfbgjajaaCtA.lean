/- Cycle types of renumberings: the ways are walked number after number, their lengths put in descending order. No program is named here. -/
import Derived.Test.YtbimllpfbgjajaaLensA
import Derived.Test.YtbimllpfbgjajaaOnce
namespace Go.Proofs.Ytbimllpfbgjajaa
open Go.RowKit

/-- The numbers met on a way that is begun at w, and its length so far. -/
def cwN (L : List Int) : Nat → List Bool → Nat → Nat → List Bool × Nat
  | 0, M, _, k => (M, k)
  | f + 1, M, w, k => if eL M w then (M, k) else cwN L f (M.set w true) (eI L w).toNat (k + 1)
theorem cwN_met (L : List Int) (f : Nat) {M : List Bool} {w k : Nat} (h : eL M w = true) : cwN L f M w k = (M, k) := by
  cases f with
  | zero => rfl
  | succ f => show (if eL M w then (M, k) else _) = _; rw [h]; rfl
theorem count_meet {M : List Bool} {w : Nat} (hw : w < M.length) (h : eL M w = false) : (M.set w true).count false + 1 = M.count false := by
  have h1 : M[w] = false := by rw [← eL_lt hw]; exact h
  have h2 := List.count_set (a := true) (b := false) (l := M) hw
  have h3 : 0 < M.count false := List.count_pos_iff.2 (by rw [← h1]; exact List.getElem_mem hw)
  rw [h2, h1]
  simp
  omega
theorem cwN_step (L : List Int) {f : Nat} {M : List Bool} {w k : Nat} (hw : w < M.length) (h : eL M w = false) (hf : M.count false ≤ f) : ∃ f', f = f' + 1 ∧ (M.set w true).count false ≤ f' ∧ cwN L f M w k = cwN L f' (M.set w true) (eI L w).toNat (k + 1) := by
  have h1 := count_meet hw h
  cases f with
  | zero => omega
  | succ f =>
    refine ⟨f, rfl, by omega, ?_⟩
    show (if eL M w then (M, k) else _) = _
    rw [h]; rfl
/-- After the first v numbers: which are met, and the lengths found. -/
def ctU (L : List Int) : Nat → List Bool × List Int
  | 0 => (List.replicate L.length false, [])
  | v + 1 => ((cwN L L.length (ctU L v).1 v 0).1, if (cwN L L.length (ctU L v).1 v 0).2 = 0 then (ctU L v).2 else (ctU L v).2 ++ [((cwN L L.length (ctU L v).1 v 0).2 : Int)])
theorem cwN_len (L : List Int) : ∀ (f : Nat) (M : List Bool) (w k : Nat), (cwN L f M w k).1.length = M.length
  | 0, _, _, _ => rfl
  | f + 1, M, w, k => by
    show (if eL M w then (M, k) else cwN L f (M.set w true) (eI L w).toNat (k + 1)).1.length = _
    split
    · rfl
    · rw [cwN_len L f, List.length_set]
theorem ctU_len (L : List Int) : ∀ v, (ctU L v).1.length = L.length
  | 0 => List.length_replicate
  | v + 1 => by
    show (cwN L L.length (ctU L v).1 v 0).1.length = _
    rw [cwN_len, ctU_len L v]
theorem ctU_few (L : List Int) : ∀ v, (ctU L v).2.length ≤ v
  | 0 => Nat.le_refl _
  | v + 1 => by
    have := ctU_few L v
    show (if (cwN L L.length (ctU L v).1 v 0).2 = 0 then (ctU L v).2 else (ctU L v).2 ++ [((cwN L L.length (ctU L v).1 v 0).2 : Int)]).length ≤ _
    split
    · omega
    · rw [List.length_append]
      simp
      omega
theorem ctU_go {L : List Int} {v k : Nat} {M : List Bool} (h : cwN L L.length (ctU L v).1 v 0 = (M, k)) : ctU L (v + 1) = (M, if k = 0 then (ctU L v).2 else (ctU L v).2 ++ [(k : Int)]) := by
  show ((cwN L L.length (ctU L v).1 v 0).1, if (cwN L L.length (ctU L v).1 v 0).2 = 0 then (ctU L v).2 else (ctU L v).2 ++ [((cwN L L.length (ctU L v).1 v 0).2 : Int)]) = _
  rw [h]
theorem cwN_ge (L : List Int) : ∀ (f : Nat) (M : List Bool) (w k : Nat), k ≤ (cwN L f M w k).2
  | 0, _, _, _ => Nat.le_refl _
  | f + 1, M, w, k => by
    show k ≤ (if eL M w then (M, k) else cwN L f (M.set w true) (eI L w).toNat (k + 1)).2
    split
    · exact Nat.le_refl _
    · have := cwN_ge L f (M.set w true) (eI L w).toNat (k + 1)
      omega
theorem ctU_more (L : List Int) (v : Nat) : (ctU L v).2.length ≤ (ctU L (v + 1)).2.length := by
  show _ ≤ (if (cwN L L.length (ctU L v).1 v 0).2 = 0 then (ctU L v).2 else (ctU L v).2 ++ [((cwN L L.length (ctU L v).1 v 0).2 : Int)]).length
  split
  · exact Nat.le_refl _
  · rw [List.length_append]
    omega
theorem ctU_pos {L : List Int} {m : Nat} (hl : L.length = m) (hm : 1 ≤ m) : 1 ≤ (ctU L m).2.length := by
  have h1 : 1 ≤ (ctU L 1).2.length := by
    show 1 ≤ (if (cwN L L.length (List.replicate L.length false) 0 0).2 = 0 then ([] : List Int) else [] ++ [((cwN L L.length (List.replicate L.length false) 0 0).2 : Int)]).length
    obtain ⟨n, hn⟩ : ∃ n, L.length = n + 1 := ⟨L.length - 1, by omega⟩
    have h2 : 1 ≤ (cwN L L.length (List.replicate L.length false) 0 0).2 := by
      rw [hn]
      show 1 ≤ (if eL (List.replicate (n + 1) false) 0 then (List.replicate (n + 1) false, 0) else cwN L n ((List.replicate (n + 1) false).set 0 true) (eI L 0).toNat (0 + 1)).2
      rw [if_neg (by simp [eL])]
      exact cwN_ge L n _ _ _
    rw [if_neg (by omega)]
    simp
  have h2 : ∀ k, 1 ≤ k → 1 ≤ (ctU L k).2.length := by
    intro k hk
    induction k with
    | zero => omega
    | succ k ih =>
      rcases Nat.eq_zero_or_pos k with e | e
      · subst e; exact h1
      · have := ctU_more L k
        have := ih e
        omega
  exact h2 m hm
/-- The numbers in descending order. -/
def dscI (xs : List Int) : List Int := (srtI xs).reverse
theorem dscI_len (xs : List Int) : (dscI xs).length = xs.length := by unfold dscI; rw [List.length_reverse, srtI_len]
theorem dscI_eq {xs ys : List Int} (hp : xs.Perm ys) (hs : ys.Pairwise (fun x y => y ≤ x)) : dscI xs = ys := by
  unfold dscI
  rw [srtI_eq (ys := ys.reverse) (hp.trans (List.reverse_perm ys).symm) (List.pairwise_reverse.2 hs), List.reverse_reverse]
theorem dscI_sorted (xs : List Int) : (dscI xs).Pairwise (fun x y => y ≤ x) := List.pairwise_reverse.2 (srtI_sorted xs)
theorem dscI_perm (xs : List Int) : (dscI xs).Perm xs := (List.reverse_perm _).trans (srtI_perm xs)
theorem dsc_sorted {S : List Int} {x : Int} {a : Nat} (hs : S.Pairwise (fun x y => y ≤ x)) (ha : a ≤ S.length) (h1 : 0 < a → x ≤ eI S (a - 1)) (h2 : a < S.length → eI S a ≤ x) : (S.take a ++ x :: S.drop a).Pairwise (fun x y => y ≤ x) := by
  have hg := List.pairwise_iff_getElem.1 hs
  have hx : ∀ y, y ∈ S.drop a → y ≤ x := fun y hy => by
    obtain ⟨j, hj, e⟩ := List.getElem_of_mem hy
    rw [List.length_drop] at hj
    rw [List.getElem_drop] at e
    have h3 := h2 (by omega)
    rw [eI_lt (by omega)] at h3
    rcases Nat.eq_zero_or_pos j with h0 | h0
    · subst h0
      simp only [Nat.add_zero] at e
      omega
    · have := hg a (a + j) (by omega) (by omega) (by omega)
      omega
  have ht : ∀ y, y ∈ S.take a → x ≤ y := fun y hy => by
    obtain ⟨j, hj, e⟩ := List.getElem_of_mem hy
    rw [List.length_take] at hj
    rw [List.getElem_take] at e
    have h3 := h1 (by omega)
    rw [eI_lt (by omega)] at h3
    by_cases h0 : j = a - 1
    · subst h0; omega
    · have := hg j (a - 1) (by omega) (by omega) (by omega)
      omega
  refine List.pairwise_append.2 ⟨hs.sublist (List.take_sublist _ _), List.pairwise_cons.2 ⟨hx, hs.sublist (List.drop_sublist _ _)⟩, fun y hy z hz => ?_⟩
  rcases List.mem_cons.1 hz with rfl | hz
  · exact ht y hy
  · have := ht y hy; have := hx z hz; omega
theorem dscI_step {xs : List Int} {x : Int} {a : Nat} (ha : a ≤ (dscI xs).length) (h1 : 0 < a → x ≤ eI (dscI xs) (a - 1)) (h2 : a < (dscI xs).length → eI (dscI xs) a ≤ x) : dscI (xs ++ [x]) = (dscI xs).take a ++ x :: (dscI xs).drop a := by
  refine dscI_eq ?_ (dsc_sorted (dscI_sorted xs) ha h1 h2)
  have e1 : (xs ++ [x]).Perm (x :: xs) := List.perm_append_comm.trans (List.Perm.refl _)
  have e2 : ((dscI xs).take a ++ x :: (dscI xs).drop a).Perm (x :: (dscI xs)) := by
    have h := List.perm_middle (a := x) (l₁ := (dscI xs).take a) (l₂ := (dscI xs).drop a)
    rwa [List.take_append_drop] at h
  exact e1.trans (((dscI_perm xs).symm.cons x).trans e2.symm)
def fCycleTypeOf (L : List Int) : List Int × Int := if (1 ≤ L.length ∧ L.length ≤ 20) ∧ eachF (L.length : Int) L then (dscI (ctU L L.length).2, 0) else ([], 2)
theorem fCycleTypeOf_len (L : List Int) (h : L.length ≤ 1048576) : (fCycleTypeOf L).1.length ≤ 1048576 := by
  unfold fCycleTypeOf
  split
  · rw [dscI_len]
    have := ctU_few L L.length
    omega
  · simp

end Go.Proofs.Ytbimllpfbgjajaa
