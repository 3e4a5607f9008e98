/- The cycles of a search differ from each other, there are at most 2 ^ N of an edge; and their order. -/
import Derived.Test.YtfdlhdgmbjdhbaaAcA
import Derived.Shelf.SlSortCmp.Insertion
namespace Go.Proofs.Ytfdlhdgmbjdhbaa
open Go.RowKit Go.Shelf Go.Sort

theorem othD_back (es : List (Int × Int)) (v : Int) (e : Nat) : othE es (othE es v e) e = v := by unfold othE; omega
theorem othD_on {es : List (Int × Int)} {v : Int} {e : Nat} (ho : onE es v e = true) : (eA es e = v ∧ eB es e = othE es v e) ∨ (eB es e = v ∧ eA es e = othE es v e) := by
  unfold onE at ho
  unfold othE
  by_cases h : eA es e = v
  · left; omega
  · have h2 : eB es e = v := by simpa [h] using ho
    right; omega
theorem onD_oth {es : List (Int × Int)} {v : Int} {e : Nat} (ho : onE es v e = true) : onE es (othE es v e) e = true := by
  unfold onE
  rcases othD_on ho with ⟨_, h⟩ | ⟨_, h⟩ <;> simp [h]

theorem acF_le2 {es : List (Int × Int)} (h3 : LeThree es) (E : Nat) : ∀ (r : Nat) (way : List Int) (v : Int) (M : List Int), (∃ e, e ∈ onL es v ∧ acT es E v M e = false) → (acF es E r way v M).length ≤ 2 ^ r
  | 0, _, _, _, _ => by simp [acF]
  | r + 1, way, v, M, ⟨e0, he0, ha0⟩ => by
    by_cases h : v = eA es E
    · rw [acF_end h]
      exact Nat.one_le_pow _ _ (by omega)
    · rw [acF_on h]
      unfold acU
      have h1 : ((onL es v).filter (acT es E v M)).length ≤ 2 := by
        have h2 : ((onL es v).filter (acT es E v M)).length < (onL es v).length := List.length_filter_lt_length_iff_exists.2 ⟨e0, he0, by rw [ha0]; simp⟩
        have := h3 v
        omega
      refine Nat.le_trans (flat_le _ (2 ^ r) _ (fun e he => ?_)) ?_
      · obtain ⟨ho, ht⟩ := List.mem_filter.1 he
        refine acF_le2 h3 E r _ _ _ ⟨e, onL_mem.2 ⟨(onL_mem.1 ho).1, onD_oth (onL_mem.1 ho).2⟩, ?_⟩
        simp [acT, othD_back]
      · rw [Nat.pow_succ, Nat.mul_comm (2 ^ r)]
        exact Nat.mul_le_mul_right _ h1
theorem acL_le2 {es : List (Int × Int)} (h3 : LeThree es) (N k : Nat) (hk : k ≤ es.length) : (acL es N k).length ≤ k * 2 ^ N := by
  have h := flat_le (fun i => acF es i N [(i : Int)] (eB es i) []) (2 ^ N) (List.range k) (fun x hx => acF_le2 h3 x N _ _ _ ⟨x, onL_mem.2 ⟨by rw [List.mem_range] at hx; omega, by unfold onE; simp⟩, by simp [acT]⟩)
  rwa [List.length_range] at h
theorem sum_rows (K : Nat) : ∀ L : List (List Int), (∀ x, x ∈ L → x.length ≤ K) → (L.map List.length).sum ≤ L.length * K
  | [], _ => by simp
  | x :: L, h => by
    have h1 := h x (by simp)
    have h2 := sum_rows K L (fun y hy => h y (by simp [hy]))
    rw [List.map_cons, List.sum_cons, List.length_cons, Nat.add_mul]
    omega
theorem acL_sum {es : List (Int × Int)} (h3 : LeThree es) {N k : Nat} (hk : k ≤ es.length) (hN : N ≤ 12) (hk2 : k ≤ 18) : ((acL es N k).map List.length).sum + 1 ≤ 1048576 ∧ (acL es N k).length ≤ 73728 := by
  have h1 := sum_rows N (acL es N k) (fun x hx => acL_row hx)
  have h2 := acL_le2 h3 N k hk
  have h4 : 2 ^ N ≤ 2 ^ 12 := Nat.pow_le_pow_right (by omega) hN
  have h5 : k * 2 ^ N ≤ 18 * 2 ^ 12 := Nat.mul_le_mul hk2 h4
  have h6 : (acL es N k).length ≤ 18 * 2 ^ 12 := by omega
  have h7 : (acL es N k).length * N ≤ (18 * 2 ^ 12) * 12 := Nat.mul_le_mul h6 hN
  omega

theorem acF_has {es : List (Int × Int)} {E : Nat} : ∀ (r : Nat) (way : List Int) (v : Int) (M : List Int) (x : List Int), x ∈ acF es E r way v M → ∀ f ∈ way, f ∈ x
  | 0, _, _, _, x, hx => by simp [acF] at hx
  | r + 1, way, v, M, x, hx => by
    intro f hf
    by_cases h : v = eA es E
    · rw [acF_end h, List.mem_singleton] at hx
      subst hx
      exact List.mem_mergeSort.2 hf
    · rw [acF_on h] at hx
      unfold acU at hx
      rw [List.mem_flatMap] at hx
      obtain ⟨e, _, he⟩ := hx
      exact acF_has r _ _ _ x he f (by simp [hf])
/-- What is in a cycle that goes on from a way: the way, and edges with greater numbers none of whose ends is met. -/
theorem acF_new {es : List (Int × Int)} {E : Nat} : ∀ (r : Nat) (way : List Int) (v : Int) (M : List Int) (x : List Int), x ∈ acF es E r way v M → v ∉ M → ∀ f ∈ x, f ∈ way ∨ ∃ g : Nat, f = (g : Int) ∧ E < g ∧ eA es g ∉ M ∧ eB es g ∉ M
  | 0, _, _, _, x, hx => by simp [acF] at hx
  | r + 1, way, v, M, x, hx => by
    intro hv f hf
    by_cases h : v = eA es E
    · rw [acF_end h, List.mem_singleton] at hx
      subst hx
      exact .inl (List.mem_mergeSort.1 hf)
    · rw [acF_on h] at hx
      unfold acU at hx
      rw [List.mem_flatMap] at hx
      obtain ⟨e, he, hx⟩ := hx
      obtain ⟨ho, ht⟩ := List.mem_filter.1 he
      simp only [acT, Bool.and_eq_true, decide_eq_true_eq, Bool.not_eq_true', decide_eq_false_iff_not] at ht
      rcases acF_new r _ _ _ x hx ht.2 f hf with h1 | ⟨g, h1, h2, h3, h4⟩
      · rw [List.mem_append, List.mem_singleton] at h1
        rcases h1 with h1 | h1
        · exact .inl h1
        · refine .inr ⟨e, h1, ht.1, ?_⟩
          have hw : othE es v e ∉ M := fun k => ht.2 (by simp [k])
          rcases othD_on (onL_mem.1 ho).2 with ⟨a1, a2⟩ | ⟨a1, a2⟩
          · exact ⟨by rw [a1]; exact hv, by rw [a2]; exact hw⟩
          · exact ⟨by rw [a2]; exact hw, by rw [a1]; exact hv⟩
      · exact .inr ⟨g, h1, h2, fun k => h3 (by simp [k]), fun k => h4 (by simp [k])⟩
theorem acF_nodup {es : List (Int × Int)} {E : Nat} : ∀ (r : Nat) (way : List Int) (v : Int) (M : List Int), v ∉ M → (∀ g : Nat, (g : Int) ∈ way → g ≤ E ∨ (eA es g ∈ v :: M ∧ eB es g ∈ v :: M)) → (acF es E r way v M).Nodup
  | 0, _, _, _, _, _ => by simp [acF]
  | r + 1, way, v, M, hv, hW => by
    by_cases h : v = eA es E
    · rw [acF_end h]; simp
    · rw [acF_on h]
      unfold acU List.Nodup
      rw [List.pairwise_flatMap]
      refine ⟨fun e he => ?_, ?_⟩
      · obtain ⟨ho, ht⟩ := List.mem_filter.1 he
        simp only [acT, Bool.and_eq_true, decide_eq_true_eq, Bool.not_eq_true', decide_eq_false_iff_not] at ht
        refine acF_nodup r _ _ _ ht.2 fun g hg => ?_
        rw [List.mem_append, List.mem_singleton] at hg
        rcases hg with hg | hg
        · rcases hW g hg with h1 | ⟨h1, h2⟩
          · exact .inl h1
          · exact .inr ⟨List.mem_cons_of_mem _ h1, List.mem_cons_of_mem _ h2⟩
        · obtain rfl : g = e := by omega
          rcases othD_on (onL_mem.1 ho).2 with ⟨a1, a2⟩ | ⟨a1, a2⟩
          · exact .inr ⟨by rw [a1]; simp, by rw [a2]; simp⟩
          · exact .inr ⟨by rw [a2]; simp, by rw [a1]; simp⟩
      · have hp : ((onL es v).filter (acT es E v M)).Pairwise (· ≠ ·) := ((List.nodup_range (n := es.length)).filter _).filter _
        refine List.Pairwise.imp_of_mem (fun {e1 e2} he1 he2 hne => ?_) hp
        intro x hx y hy hxy
        subst hxy
        obtain ⟨ho1, ht1⟩ := List.mem_filter.1 he1
        obtain ⟨ho2, ht2⟩ := List.mem_filter.1 he2
        simp only [acT, Bool.and_eq_true, decide_eq_true_eq, Bool.not_eq_true', decide_eq_false_iff_not] at ht1 ht2
        have hin := acF_has r _ _ _ x hy (e2 : Int) (by simp)
        rcases acF_new r _ _ _ x hx ht1.2 _ hin with h1 | ⟨g, h1, h2, h3, h4⟩
        · rw [List.mem_append, List.mem_singleton] at h1
          rcases h1 with h1 | h1
          · rcases hW e2 h1 with h2 | ⟨h2, h3⟩
            · omega
            · rcases othD_on (onL_mem.1 ho2).2 with ⟨a1, a2⟩ | ⟨a1, a2⟩
              · exact ht2.2 (by rw [← a2]; exact h3)
              · exact ht2.2 (by rw [← a2]; exact h2)
          · omega
        · obtain rfl : e2 = g := by omega
          rcases othD_on (onL_mem.1 ho2).2 with ⟨a1, a2⟩ | ⟨a1, a2⟩
          · exact h3 (by rw [a1]; simp)
          · exact h4 (by rw [a1]; simp)
/-- No two of all cycles are alike. -/
theorem acL_nodup (es : List (Int × Int)) (N k : Nat) : (acL es N k).Nodup := by
  unfold acL List.Nodup
  rw [List.pairwise_flatMap]
  refine ⟨fun i _ => acF_nodup N _ _ _ (by simp) (fun g hg => .inl (by simp at hg; omega)), ?_⟩
  refine List.Pairwise.imp_of_mem (fun {i j} _ _ hij => ?_) (List.pairwise_lt_range (n := k))
  intro x hx y hy hxy
  subst hxy
  have h1 := acF_has N _ _ _ x hx (i : Int) (by simp)
  rcases acF_new N _ _ _ x hy (by simp) _ h1 with h2 | ⟨g, h2, h3, _⟩
  · simp at h2; omega
  · omega

/-- Two lists in the order of their first difference. -/
def lexR : List Int → List Int → Int
  | [], [] => 0
  | [], _ :: _ => -1
  | _ :: _, [] => 1
  | a :: x, b :: y => if a < b then -1 else if b < a then 1 else lexR x y
/-- Two lists in the order of their lengths, then of their first difference. -/
def cmpR (x y : List Int) : Int := if x.length < y.length then -1 else if y.length < x.length then 1 else lexR x y
theorem lexR_self : ∀ x : List Int, lexR x x = 0
  | [] => rfl
  | a :: x => by simp [lexR, lexR_self x]
theorem lexR_eq : ∀ x y : List Int, ¬ lexR x y < 0 → ¬ lexR y x < 0 → x = y
  | [], [], _, _ => rfl
  | [], b :: y, h, _ => by simp [lexR] at h
  | a :: x, [], _, h => by simp [lexR] at h
  | a :: x, b :: y, h1, h2 => by
    unfold lexR at h1 h2
    by_cases c1 : a < b
    · simp [c1] at h1
    · by_cases c2 : b < a
      · simp [c2] at h2
      · obtain rfl : a = b := by omega
        simp only [Int.lt_irrefl, if_false] at h1 h2
        rw [lexR_eq x y h1 h2]
theorem lexR_trans : ∀ x y z : List Int, lexR x y < 0 → lexR y z < 0 → lexR x z < 0
  | [], [], _, h, _ => by simp [lexR] at h
  | [], _ :: _, [], _, h => by simp [lexR] at h
  | [], _ :: _, _ :: _, _, _ => by simp [lexR]
  | _ :: _, [], _, h, _ => by simp [lexR] at h
  | _ :: _, _ :: _, [], _, h => by simp [lexR] at h
  | a :: x, b :: y, c :: z, h1, h2 => by
    unfold lexR at h1 h2 ⊢
    by_cases c1 : a < b
    · by_cases c2 : b < c
      · rw [if_pos (by omega)]; omega
      · by_cases c3 : c < b
        · simp [c2, c3] at h2
        · rw [if_pos (by omega)]; omega
    · by_cases c1' : b < a
      · simp [c1, c1'] at h1
      · obtain rfl : a = b := by omega
        simp only [Int.lt_irrefl, if_false] at h1
        by_cases c2 : a < c
        · rw [if_pos c2]; omega
        · by_cases c3 : c < a
          · simp [c2, c3] at h2
          · rw [if_neg c2, if_neg c3] at h2 ⊢
            exact lexR_trans x y z h1 h2
theorem lexR_ntrans : ∀ x y z : List Int, ¬ lexR x y < 0 → ¬ lexR y z < 0 → ¬ lexR x z < 0
  | [], [], _, _, h => h
  | [], _ :: _, _, h, _ => by simp [lexR] at h
  | _ :: _, _, [], _, _ => by simp [lexR]
  | _ :: _, [], _ :: _, _, h => by simp [lexR] at h
  | a :: x, b :: y, c :: z, h1, h2 => by
    unfold lexR at h1 h2 ⊢
    by_cases c1 : a < b
    · simp [c1] at h1
    · by_cases c2 : b < c
      · simp [c2] at h2
      · by_cases e1 : b < a
        · rw [if_neg (by omega), if_pos (by omega)]; omega
        · by_cases e2 : c < b
          · rw [if_neg (by omega), if_pos (by omega)]; omega
          · obtain rfl : a = b := by omega
            obtain rfl : a = c := by omega
            simp only [Int.lt_irrefl, if_false] at h1 h2 ⊢
            exact lexR_ntrans x y z h1 h2
theorem cmpR_eq (x y : List Int) (h1 : ¬ cmpR x y < 0) (h2 : ¬ cmpR y x < 0) : x = y := by
  unfold cmpR at h1 h2
  by_cases c1 : x.length < y.length
  · simp [c1] at h1
  · by_cases c2 : y.length < x.length
    · simp [c2] at h2
    · rw [if_neg c1, if_neg c2] at h1
      rw [if_neg c2, if_neg c1] at h2
      exact lexR_eq x y h1 h2
theorem cmpR_trans (x y z : List Int) (h1 : cmpR x y < 0) (h2 : cmpR y z < 0) : cmpR x z < 0 := by
  unfold cmpR at h1 h2 ⊢
  by_cases c1 : x.length < y.length
  · by_cases c2 : z.length < y.length
    · rw [if_neg (by omega), if_pos c2] at h2; omega
    · rw [if_pos (by omega)]; omega
  · by_cases c1' : y.length < x.length
    · rw [if_neg c1, if_pos c1'] at h1; omega
    · rw [if_neg c1, if_neg c1'] at h1
      by_cases c2 : y.length < z.length
      · rw [if_pos (by omega)]; omega
      · by_cases c3 : z.length < y.length
        · rw [if_neg c2, if_pos c3] at h2; omega
        · rw [if_neg c2, if_neg c3] at h2
          rw [if_neg (by omega), if_neg (by omega)]
          exact lexR_trans x y z h1 h2
theorem cmpR_ntrans (x y z : List Int) (h1 : ¬ cmpR x y < 0) (h2 : ¬ cmpR y z < 0) : ¬ cmpR x z < 0 := by
  unfold cmpR at h1 h2 ⊢
  by_cases c1 : x.length < y.length
  · rw [if_pos c1] at h1; omega
  · by_cases c2 : y.length < z.length
    · rw [if_pos c2] at h2; omega
    · by_cases e1 : y.length < x.length
      · rw [if_neg (by omega), if_pos (by omega)]; omega
      · by_cases e2 : z.length < y.length
        · rw [if_neg (by omega), if_pos (by omega)]; omega
        · rw [if_neg c1, if_neg e1] at h1
          rw [if_neg c2, if_neg e2] at h2
          rw [if_neg (by omega), if_neg (by omega)]
          exact lexR_ntrans x y z h1 h2
theorem cmpR_self (x : List Int) : cmpR x x = 0 := by unfold cmpR; simp [lexR_self]
theorem cmpR_swo : SWO (ltOf cmpR) where
  irrefl x := by unfold ltOf; rw [cmpR_self]; rfl
  trans x y z h1 h2 := by unfold ltOf at *; rw [decide_eq_true_eq] at *; exact cmpR_trans x y z h1 h2
  ntrans x y z h1 h2 := by unfold ltOf at *; rw [decide_eq_false_iff_not] at *; exact cmpR_ntrans x y z h1 h2
/-- Lists of numbers, in order. -/
def srtR (L : List (List Int)) : List (List Int) := L.mergeSort fun x y => !(ltOf cmpR) y x
theorem nodup_inj {α : Type} {l : List α} (h : l.Nodup) {i j : Nat} (hi : i < l.length) (hj : j < l.length) (e : l[i] = l[j]) : i = j := by
  have hp := List.pairwise_iff_getElem.1 h
  rcases Nat.lt_trichotomy i j with k | k | k
  · exact absurd e (hp i j hi hj k)
  · exact k
  · exact absurd e.symm (hp j i hj hi k)
/-- The order by the places of lists that are not alike. -/
def cmpJ (L : List (List Int)) (i j : Fin L.length) : Int := cmpR L[i] L[j]
theorem cmpJ_swo (L : List (List Int)) : SWO (ltOf (cmpJ L)) where
  irrefl x := cmpR_swo.irrefl L[x]
  trans x y z := cmpR_swo.trans L[x] L[y] L[z]
  ntrans x y z := cmpR_swo.ntrans L[x] L[y] L[z]
theorem cmpJ_total {L : List (List Int)} (h : L.Nodup) (i j : Fin L.length) (h1 : ltOf (cmpJ L) i j = false) (h2 : ltOf (cmpJ L) j i = false) : i = j := by
  unfold ltOf cmpJ at h1 h2
  rw [decide_eq_false_iff_not] at h1 h2
  have h3 := cmpR_eq _ _ h1 h2
  exact Fin.ext (nodup_inj h i.isLt j.isLt h3)

end Go.Proofs.Ytfdlhdgmbjdhbaa
