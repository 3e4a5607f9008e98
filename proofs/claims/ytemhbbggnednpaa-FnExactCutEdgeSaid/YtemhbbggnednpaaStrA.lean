/- Star products as lists of edges: taking out vertices of two graphs beside each other, and of each for itself, come to the same. -/
import Derived.Test.YtemhbbggnednpaaOutV
import Derived.Test.YtemhbbggnednpaaEndA
import Derived.Test.YtemhbbggnednpaaPairE
namespace Go.Proofs.Ytemhbbggnednpaa
open Go.RowKit

theorem es_range (es : List (Int × Int)) : es = (List.range es.length).map fun i => (eA es i, eB es i) := by
  refine List.ext_getElem (by simp) fun i h1 h2 => ?_
  simp only [List.getElem_map, List.getElem_range]
  rw [eA_lt h1, eB_lt h1]

/-- An edge has none of some vertices; its ends with the numbers that are left, from f on. -/
def outQ (xs : List Int) (e : Int × Int) : Bool := !decide (e.1 ∈ xs) && !decide (e.2 ∈ xs)
def outM (f : Int) (xs : List Int) (e : Int × Int) : Int × Int := (f + numW e.1 xs xs.length, f + numW e.2 xs xs.length)
/-- The edges that are left, of the first k ones, with numbers from f on. -/
def mdU (f : Int) (es : List (Int × Int)) (xs : List Int) (k : Nat) : List (Int × Int) := ((List.range k).filter (outG es xs)).map fun i => (f + numW (eA es i) xs xs.length, f + numW (eB es i) xs xs.length)
theorem mdU_yes {f : Int} {es : List (Int × Int)} {xs : List Int} {k : Nat} (h : outG es xs k = true) : mdU f es xs (k + 1) = mdU f es xs k ++ [(f + numW (eA es k) xs xs.length, f + numW (eB es k) xs xs.length)] := by
  unfold mdU
  rw [List.range_succ, List.filter_append, List.map_append]
  simp [h]
theorem mdU_no {f : Int} {es : List (Int × Int)} {xs : List Int} {k : Nat} (h : outG es xs k = false) : mdU f es xs (k + 1) = mdU f es xs k := by
  unfold mdU
  rw [List.range_succ, List.filter_append, List.map_append]
  simp [h]
theorem mdU_len (f : Int) (es : List (Int × Int)) (xs : List Int) (k : Nat) : (mdU f es xs k).length ≤ k := by
  unfold mdU
  rw [List.length_map]
  exact Nat.le_trans (List.length_filter_le _ _) (by simp)
theorem mdU_flat (f : Int) (es : List (Int × Int)) (xs : List Int) : mdU f es xs es.length = (es.filter (outQ xs)).map (outM f xs) := by
  conv => rhs; rw [es_range es]
  rw [List.filter_map, List.map_map]
  rfl
theorem outU_md (es : List (Int × Int)) (xs : List Int) (k : Nat) : outU es xs k = mdU 0 es xs k := by
  unfold outU mdU
  refine List.map_congr_left fun i _ => ?_
  rw [Int.zero_add, Int.zero_add]
theorem outU_flat (es : List (Int × Int)) (xs : List Int) : outU es xs es.length = (es.filter (outQ xs)).map (outM 0 xs) := by
  rw [outU_md, mdU_flat]

/-- The other ends of the edges at a vertex. -/
def endsF (es : List (Int × Int)) (v : Int) : List Int := (onL es v).map (othE es v)
theorem isG_pos {s : Int} {es : List (Int × Int)} (g : IsG s es) {i : Nat} (hi : i < es.length) : 0 ≤ eA es i ∧ eA es i < s ∧ 0 ≤ eB es i ∧ eB es i < s ∧ eA es i ≠ eB es i := g.1.2 i hi
theorem endsF_three {s : Int} {es : List (Int × Int)} (g : IsG s es) {v : Int} (h0 : 0 ≤ v) (hv : v < s) : (endsF es v).length = 3 := by
  have h := atF_three g h0 hv
  rw [onL_at] at h
  unfold endsF
  rw [List.length_map] at h ⊢
  exact h
theorem endsF_in {s : Int} {es : List (Int × Int)} (g : IsG s es) {v : Int} {x : Int} (hx : x ∈ endsF es v) : 0 ≤ x ∧ x < s ∧ x ≠ v := by
  unfold endsF at hx
  rw [List.mem_map] at hx
  obtain ⟨e, he, rfl⟩ := hx
  obtain ⟨h1, h2⟩ := onL_mem.1 he
  have h3 := isG_pos g h1
  unfold onE at h2
  unfold othE
  have h4 : eA es e = v ∨ eB es e = v := by simpa using h2
  omega
/-- The ends without an edge that no graph has. -/
theorem endL_none {es : List (Int × Int)} (hne : ∀ i, i < es.length → eA es i ≠ eB es i) (v : Int) : endL es 0 0 (arF es v) = endsF es v := by
  have h : ∀ p, p ∈ arF es v → keepE es 0 0 p.1 = true ∧ p.2 = othE es v p.1 := fun p hp => by
    unfold arF arU at hp
    rw [List.mem_map] at hp
    obtain ⟨e, he, rfl⟩ := hp
    rw [List.mem_filter, List.mem_range] at he
    refine ⟨?_, across_oth he.2⟩
    unfold keepE
    have := hne e he.1
    by_cases h0 : eA es e = 0
    · have h1 : ¬ eB es e = 0 := fun h => this (h0.trans h.symm)
      simp [h1]
    · simp [h0]
  unfold endL endsF
  rw [List.filter_eq_self.2 fun p hp => (h p hp).1, ← arF_onL, List.map_map]
  exact List.map_congr_left fun p hp => (h p hp).2

theorem onE_beside {s : Int} {xs ys : List (Int × Int)} (v : Int) (i : Nat) : (i < xs.length → onE (xs ++ upE s ys) v i = onE xs v i ∧ ∀ u, othE (xs ++ upE s ys) u i = othE xs u i) ∧ (i < ys.length → onE (xs ++ upE s ys) (s + v) (xs.length + i) = onE ys v i ∧ othE (xs ++ upE s ys) (s + v) (xs.length + i) = s + othE ys v i) := by
  constructor
  · intro h
    have := (eAB_append xs (upE s ys) i).1 h
    unfold onE othE
    rw [this.1, this.2]
    exact ⟨rfl, fun _ => rfl⟩
  · intro h
    have h1 := (eAB_append xs (upE s ys) (xs.length + i)).2 (by omega)
    have h2 := upE_at (s := s) h
    rw [show xs.length + i - xs.length = i by omega] at h1
    unfold onE othE
    rw [h1.1, h1.2, h2.1, h2.2]
    refine ⟨?_, by omega⟩
    have e1 : (eA ys i + s == s + v) = (eA ys i == v) := by rw [Bool.eq_iff_iff]; simp only [beq_iff_eq]; omega
    have e2 : (eB ys i + s == s + v) = (eB ys i == v) := by rw [Bool.eq_iff_iff]; simp only [beq_iff_eq]; omega
    rw [e1, e2]
theorem onE_far {s : Int} {es : List (Int × Int)} {v : Int} {i : Nat} (h : 0 ≤ eA es i ∧ eA es i < s ∧ 0 ≤ eB es i ∧ eB es i < s) (hv : ¬ (0 ≤ v ∧ v < s)) : onE es v i = false := by
  unfold onE
  have e1 : (eA es i == v) = false := by rw [beq_eq_false_iff_ne]; omega
  have e2 : (eB es i == v) = false := by rw [beq_eq_false_iff_ne]; omega
  rw [e1, e2]; rfl
theorem range_split (n m : Nat) : List.range (n + m) = List.range n ++ (List.range m).map (n + ·) := by
  rw [List.range_add]
theorem endsF_beside {s t : Int} {xs ys : List (Int × Int)} (g1 : IsG s xs) (g2 : IsG t ys) {v w : Int} (hv : 0 ≤ v ∧ v < s) (hw : 0 ≤ w ∧ w < t) :
    endsF (xs ++ upE s ys) v = endsF xs v ∧ endsF (xs ++ upE s ys) (s + w) = (endsF ys w).map (s + ·) := by
  unfold endsF onL
  rw [List.length_append, upE_length, range_split, List.filter_append, List.filter_append, List.filter_map, List.filter_map]
  constructor
  · have a1 : (List.range xs.length).filter (onE (xs ++ upE s ys) v) = (List.range xs.length).filter (onE xs v) :=
      List.filter_congr fun i hi => ((onE_beside v i).1 (List.mem_range.1 hi)).1
    have a2 : (List.range ys.length).filter ((onE (xs ++ upE s ys) v) ∘ (xs.length + ·)) = [] := by
      rw [List.filter_eq_nil_iff]
      intro i hi h
      have hi := List.mem_range.1 hi
      have h1 := ((onE_beside (s := s) (xs := xs) (v - s) i).2 hi).1
      rw [show s + (v - s) = v by omega] at h1
      have h2 := isG_pos g2 hi
      have h3 : onE ys (v - s) i = false := onE_far (s := t) (by omega) (by omega)
      rw [h3] at h1
      exact absurd (h.symm.trans h1) (by simp)
    rw [a1, a2, List.map_nil, List.append_nil]
    refine List.map_congr_left fun i hi => ?_
    exact ((onE_beside v i).1 (List.mem_range.1 (List.mem_filter.1 hi).1)).2 v
  · have a1 : (List.range xs.length).filter (onE (xs ++ upE s ys) (s + w)) = [] := by
      rw [List.filter_eq_nil_iff]
      intro i hi h
      have hi := List.mem_range.1 hi
      have h1 := ((onE_beside (s := s) (ys := ys) (s + w) i).1 hi).1
      have h2 := isG_pos g1 hi
      have h3 : onE xs (s + w) i = false := onE_far (s := s) (by omega) (by omega)
      rw [h3] at h1
      exact absurd (h.symm.trans h1) (by simp)
    have a2 : (List.range ys.length).filter ((onE (xs ++ upE s ys) (s + w)) ∘ (xs.length + ·)) = (List.range ys.length).filter (onE ys w) :=
      List.filter_congr fun i hi => ((onE_beside w i).2 (List.mem_range.1 hi)).1
    rw [a1, a2, List.nil_append, List.map_map, List.map_map]
    refine List.map_congr_left fun i hi => ?_
    exact ((onE_beside w i).2 (List.mem_range.1 (List.mem_filter.1 hi).1)).2

theorem numW_one (v a : Int) : numW a [v] 1 = a - (if v < a then 1 else 0) := by
  unfold numW
  by_cases h : v < a <;> simp [h]
theorem numW_two (v u a : Int) : numW a [v, u] 2 = a - (if v < a then 1 else 0) - (if u < a then 1 else 0) := by
  unfold numW
  by_cases h : v < a <;> by_cases h2 : u < a <;> simp [h, h2] <;> omega

/-- The star product's edges as the model makes them. -/
def starM (s : Int) (xs : List (Int × Int)) (v : Int) (ys : List (Int × Int)) (w : Int) : List (Int × Int) :=
  mdU 0 xs [v] xs.length ++ mdU (s - 1) ys [w] ys.length ++ (List.range 3).map fun i => (numW (eI (endsF xs v) i) [v] 1, (s - 1) + numW (eI (endsF ys w) i) [w] 1)
/-- And as the program puts them together, before it takes the vertices out. -/
def starP (s : Int) (xs : List (Int × Int)) (v : Int) (ys : List (Int × Int)) (w : Int) : List (Int × Int) :=
  (xs ++ upE s ys) ++ pairL (endsF xs v) ((endsF ys w).map (s + ·)) 3
theorem starP_len (s : Int) (xs : List (Int × Int)) (v : Int) (ys : List (Int × Int)) (w : Int) : (starP s xs v ys w).length = xs.length + ys.length + 3 := by
  unfold starP
  rw [List.length_append, List.length_append, upE_length, pairL_len]

theorem star_same {s t : Int} {xs ys : List (Int × Int)} (g1 : IsG s xs) (g2 : IsG t ys) {v w : Int} (hv : 0 ≤ v ∧ v < s) (hw : 0 ≤ w ∧ w < t) :
    outU (starP s xs v ys w) [v, s + w] (starP s xs v ys w).length = starM s xs v ys w := by
  rw [outU_flat]
  unfold starP starM
  rw [List.filter_append, List.filter_append, List.map_append, List.map_append, mdU_flat, mdU_flat]
  have m1 : ∀ e, e ∈ xs → 0 ≤ e.1 ∧ e.1 < s ∧ 0 ≤ e.2 ∧ e.2 < s := fun e he => by
    obtain ⟨i, hi, rfl⟩ := List.getElem_of_mem he
    have := isG_pos g1 hi
    rw [eA_lt hi, eB_lt hi] at this
    omega
  have m2 : ∀ e, e ∈ ys → 0 ≤ e.1 ∧ e.1 < t ∧ 0 ≤ e.2 ∧ e.2 < t := fun e he => by
    obtain ⟨i, hi, rfl⟩ := List.getElem_of_mem he
    have := isG_pos g2 hi
    rw [eA_lt hi, eB_lt hi] at this
    omega
  have l1 := endsF_three g1 hv.1 hv.2
  have l2 := endsF_three g2 hw.1 hw.2
  have i1 : ∀ i, i < 3 → 0 ≤ eI (endsF xs v) i ∧ eI (endsF xs v) i < s ∧ eI (endsF xs v) i ≠ v := fun i hi => by
    rw [eI_lt (by omega)]
    exact endsF_in g1 (List.getElem_mem _)
  have i2 : ∀ i, i < 3 → 0 ≤ eI (endsF ys w) i ∧ eI (endsF ys w) i < t ∧ eI (endsF ys w) i ≠ w := fun i hi => by
    rw [eI_lt (by omega)]
    exact endsF_in g2 (List.getElem_mem _)
  congr 1
  · congr 1
    · have f1 : xs.filter (outQ [v, s + w]) = xs.filter (outQ [v]) := List.filter_congr fun e he => by
        have := m1 e he
        have n1 : ¬ e.1 = s + w := by omega
        have n2 : ¬ e.2 = s + w := by omega
        unfold outQ
        simp [n1, n2]
      rw [f1]
      refine List.map_congr_left fun e he => ?_
      have := m1 e (List.mem_filter.1 he).1
      unfold outM
      simp only [List.length_cons, List.length_nil, Nat.zero_add, Nat.reduceAdd]
      rw [numW_one, numW_one, numW_two, numW_two, if_neg (show ¬ s + w < e.1 by omega), if_neg (show ¬ s + w < e.2 by omega), Int.sub_zero, Int.sub_zero]
    · unfold upE
      rw [List.filter_map, List.map_map]
      have f1 : ys.filter (outQ [v, s + w] ∘ fun e => (e.1 + s, e.2 + s)) = ys.filter (outQ [w]) := List.filter_congr fun e he => by
        have := m2 e he
        have n1 : ¬ e.1 + s = v := by omega
        have n2 : ¬ e.2 + s = v := by omega
        have n3 : (e.1 + s = s + w) = (e.1 = w) := propext (by omega)
        have n4 : (e.2 + s = s + w) = (e.2 = w) := propext (by omega)
        unfold outQ
        simp [n1, n2, n3, n4]
      rw [f1]
      refine List.map_congr_left fun e he => ?_
      have := m2 e (List.mem_filter.1 he).1
      show outM 0 [v, s + w] (e.1 + s, e.2 + s) = _
      unfold outM
      simp only [List.length_cons, List.length_nil, Nat.zero_add, Nat.reduceAdd]
      rw [numW_one, numW_one, numW_two, numW_two, if_pos (show v < e.1 + s by omega), if_pos (show v < e.2 + s by omega)]
      have n3 : (s + w < e.1 + s) = (w < e.1) := propext (by omega)
      have n4 : (s + w < e.2 + s) = (w < e.2) := propext (by omega)
      simp only [n3, n4]
      refine Prod.ext ?_ ?_ <;> dsimp only <;> omega
  · have f1 : (pairL (endsF xs v) ((endsF ys w).map (s + ·)) 3).filter (outQ [v, s + w]) = pairL (endsF xs v) ((endsF ys w).map (s + ·)) 3 := by
      rw [List.filter_eq_self]
      intro e he
      unfold pairL at he
      rw [List.mem_map] at he
      obtain ⟨i, hi, rfl⟩ := he
      have hi := List.mem_range.1 hi
      have h1 := i1 i hi
      have h2 := i2 i hi
      have h3 : eI ((endsF ys w).map (s + ·)) i = s + eI (endsF ys w) i := by
        rw [eI_lt (by rw [List.length_map]; omega), eI_lt (by omega), List.getElem_map]
      have n1 : ¬ eI (endsF xs v) i = v := by omega
      have n2 : ¬ eI (endsF xs v) i = s + w := by omega
      have n3 : ¬ s + eI (endsF ys w) i = v := by omega
      have n4 : ¬ s + eI (endsF ys w) i = s + w := by omega
      unfold outQ
      simp only [h3]
      simp [n1, n2, n3]
      omega
    rw [f1]
    unfold pairL
    rw [List.map_map]
    refine List.map_congr_left fun i hi => ?_
    have hi := List.mem_range.1 hi
    have h1 := i1 i hi
    have h2 := i2 i hi
    have h3 : eI ((endsF ys w).map (s + ·)) i = s + eI (endsF ys w) i := by
      rw [eI_lt (by rw [List.length_map]; omega), eI_lt (by omega), List.getElem_map]
    show outM 0 [v, s + w] (eI (endsF xs v) i, eI ((endsF ys w).map (s + ·)) i) = _
    unfold outM
    simp only [List.length_cons, List.length_nil, Nat.zero_add, Nat.reduceAdd, h3]
    rw [numW_one, numW_one, numW_two, numW_two, if_neg (show ¬ s + w < eI (endsF xs v) i by omega), if_pos (show v < s + eI (endsF ys w) i by omega)]
    have n3 : (s + w < s + eI (endsF ys w) i) = (w < eI (endsF ys w) i) := propext (by omega)
    simp only [n3]
    refine Prod.ext ?_ ?_ <;> dsimp only <;> omega

end Go.Proofs.Ytemhbbggnednpaa
