/- The cycles that a matching leaves, as plain lists. No program is named here. -/
import Derived.Test.YthacpadadccioaaWayA
import Derived.Test.YthacpadadccioaaMatA
namespace Go.Proofs.Ythacpadadccioaa
open Go.RowKit

/-- The edge f is not in the matching. -/
def freeB (es : List (Int × Int)) (xs : List Int) (f : Nat) : Bool := decide (f < es.length) && !decide ((f : Int) ∈ xs)
def nxF (es : List (Int × Int)) (xs : List Int) (v : Int) (f : Nat) : Nat := ((onL es v).find? fun y => freeB es xs y && y != f).getD 0

section
variable {s : Int} {es : List (Int × Int)} {xs : List Int}
theorem freeB_iff {f : Nat} : freeB es xs f = true ↔ f < es.length ∧ (f : Int) ∉ xs := by
  unfold freeB
  simp
theorem mat_at (m : isMatP s es xs) {i : Nat} (hi : i < xs.length) : ∃ X : Nat, eI xs i = X ∧ X < es.length := by
  have h := (m.2.1 i hi).1
  exact ⟨(eI xs i).toNat, (Int.toNat_of_nonneg h.1).symm, by omega⟩
theorem endM_on (es : List (Int × Int)) (e k : Nat) : onE es (endM es e k) e = true := by
  unfold endM onE
  split <;> simp
theorem endM_rng (g : IsG s es) {e k : Nat} (he : e < es.length) : 0 ≤ endM es e k ∧ endM es e k < s := by
  have h1 := g.1.2 e he
  unfold endM
  split
  · exact ⟨h1.1, h1.2.1⟩
  · exact ⟨h1.2.2.1, h1.2.2.2.1⟩
/-- An end of an edge of the matching is on no other edge of it. -/
theorem mat_apart (m : isMatP s es xs) {i j k : Nat} (hij : i < j) (hj : j < xs.length) (h : onE es (endM es (eI xs j).toNat k) (eI xs i).toNat = true) : False := by
  have hm : metV es xs j (endM es (eI xs j).toNat k) = true := by
    unfold metV
    rw [List.any_eq_true]
    exact ⟨i, List.mem_range.2 hij, h⟩
  have ho := m.2.2 j hj
  unfold endM at hm
  split at hm
  · rw [ho.1] at hm; exact absurd hm (by decide)
  · rw [ho.2] at hm; exact absurd hm (by decide)
theorem on_end {v : Int} {e : Nat} (h : onE es v e = true) : ∃ k, k < 2 ∧ v = endM es e k := by
  unfold onE at h
  by_cases h1 : eA es e = v
  · exact ⟨0, by omega, h1.symm⟩
  · have h2 : eB es e = v := by simpa [h1] using h
    exact ⟨1, by omega, h2.symm⟩
/-- Two edges of the matching at one vertex are one. -/
theorem mat_one (m : isMatP s es xs) {v : Int} {e f : Nat} (he : (e : Int) ∈ xs) (hf : (f : Int) ∈ xs) (h1 : onE es v e = true) (h2 : onE es v f = true) : e = f := by
  obtain ⟨i, hi, ei⟩ := List.getElem_of_mem he
  obtain ⟨j, hj, ej⟩ := List.getElem_of_mem hf
  rw [← eI_lt hi] at ei
  rw [← eI_lt hj] at ej
  obtain ⟨a, _, ha⟩ := on_end h1
  obtain ⟨b, _, hb⟩ := on_end h2
  rcases Nat.lt_trichotomy i j with h | h | h
  · refine (mat_apart (k := b) m h hj ?_).elim
    rw [ej, ei, Int.toNat_natCast, Int.toNat_natCast, ← hb]
    exact h1
  · subst h
    omega
  · refine (mat_apart (k := a) m h hi ?_).elim
    rw [ej, ei, Int.toNat_natCast, Int.toNat_natCast, ← ha]
    exact h2
/-- Each vertex is on an edge of the matching. -/
theorem mat_cover (g : IsG s es) (m : isMatP s es xs) {v : Int} (hv : 0 ≤ v ∧ v < s) : ∃ e : Nat, e < es.length ∧ (e : Int) ∈ xs ∧ onE es v e = true := by
  refine Classical.byContradiction fun hno => ?_
  have hns : ∀ j, j < xs.length → onE es v (eI xs j).toNat = false := fun j hj => by
    obtain ⟨X, hX, hXl⟩ := mat_at m hj
    cases h : onE es v (eI xs j).toNat
    · rfl
    · rw [hX, Int.toNat_natCast] at h
      exact absurd ⟨X, hXl, by rw [← hX]; exact eI_mem hj, h⟩ hno
  obtain ⟨N, rfl⟩ : ∃ N : Nat, s = N := ⟨_, (Int.toNat_of_nonneg (by omega)).symm⟩
  have hN : 2 * xs.length = N := by have := m.1; omega
  have hE : ∀ i, i < N → 0 ≤ endM es (eI xs (i / 2)).toNat (i % 2) ∧ endM es (eI xs (i / 2)).toNat (i % 2) < N ∧ endM es (eI xs (i / 2)).toNat (i % 2) ≠ v := fun i hi => by
    obtain ⟨X, hX, hXl⟩ := mat_at m (i := i / 2) (by omega)
    have h1 := endM_rng (k := i % 2) g (e := (eI xs (i / 2)).toNat) (by rw [hX, Int.toNat_natCast]; exact hXl)
    refine ⟨h1.1, h1.2, fun e => ?_⟩
    have h2 := hns (i / 2) (by omega)
    rw [← e, endM_on] at h2
    exact absurd h2 (by decide)
  obtain ⟨i, j, hij, hj, he⟩ := pigeon (N - 1) (fun i => if endM es (eI xs (i / 2)).toNat (i % 2) < v then (endM es (eI xs (i / 2)).toNat (i % 2)).toNat else (endM es (eI xs (i / 2)).toNat (i % 2)).toNat - 1) (fun i hi => by
    have h := hE i (by omega)
    split <;> omega)
  have hi1 := hE i (by omega)
  have hj1 := hE j (by omega)
  have hee : endM es (eI xs (i / 2)).toNat (i % 2) = endM es (eI xs (j / 2)).toNat (j % 2) := by
    split at he <;> split at he <;> omega
  rcases Nat.lt_or_ge (i / 2) (j / 2) with h | h
  · refine mat_apart (k := j % 2) m h (by omega) ?_
    rw [← hee]
    exact endM_on _ _ _
  · have h2 : i / 2 = j / 2 := by omega
    rw [h2] at hee
    have h3 : i % 2 = 0 ∧ j % 2 = 1 := by omega
    rw [h3.1, h3.2] at hee
    obtain ⟨X, hX, hXl⟩ := mat_at m (i := j / 2) (by omega)
    exact isG_ne g (i := (eI xs (j / 2)).toNat) (by rw [hX, Int.toNat_natCast]; exact hXl) hee

theorem twoF (g : IsG s es) (m : isMatP s es xs) : TwoG s es (freeB es xs) (nxF es xs) := by
  have base : ∀ v f, freeB es xs f = true → onE es v f = true → ∃ h, freeB es xs h = true ∧ onE es v h = true ∧ h ≠ f ∧ ∀ y, freeB es xs y = true → onE es v y = true → y = f ∨ y = h := by
    intro v f hf ho
    obtain ⟨hfl, hfx⟩ := freeB_iff.1 hf
    have hv : 0 ≤ v ∧ v < s := by
      obtain ⟨k, _, hk⟩ := on_end ho
      rw [hk]
      exact endM_rng g hfl
    obtain ⟨q, hq1, hq2, hq3⟩ := mat_cover g m hv
    obtain ⟨x, y, z, hL, n1, n2, n3⟩ := onL_three g hv
    have mem : ∀ t, onE es v t = true → t < es.length → t = x ∨ t = y ∨ t = z := fun t h1 h2 => by
      have := onL_mem.2 ⟨h2, h1⟩
      rw [hL] at this
      simpa using this
    have hx := onL_mem.1 (show x ∈ onL es v by rw [hL]; simp)
    have hy := onL_mem.1 (show y ∈ onL es v by rw [hL]; simp)
    have hz := onL_mem.1 (show z ∈ onL es v by rw [hL]; simp)
    have fr : ∀ t, t < es.length → onE es v t = true → t ≠ q → freeB es xs t = true := fun t h1 h2 h3 => freeB_iff.2 ⟨h1, fun h => h3 (mat_one m h hq2 h2 hq3)⟩
    have nf : ∀ t, freeB es xs t = true → t ≠ q := fun t h1 e => (freeB_iff.1 h1).2 (by rw [e]; exact hq2)
    have hfq := nf f hf
    have a1 := mem q hq3 hq1
    have a2 := mem f ho hfl
    have pick : ∃ h, (h = x ∨ h = y ∨ h = z) ∧ h ≠ q ∧ h ≠ f ∧ (x = q ∨ x = f ∨ x = h) ∧ (y = q ∨ y = f ∨ y = h) ∧ (z = q ∨ z = f ∨ z = h) := by
      rcases a1 with rfl | rfl | rfl <;> rcases a2 with rfl | rfl | rfl
      · omega
      · exact ⟨z, by simp, by omega, by omega, by simp, by simp, by simp⟩
      · exact ⟨y, by simp, by omega, by omega, by simp, by simp, by simp⟩
      · exact ⟨z, by simp, by omega, by omega, by simp, by simp, by simp⟩
      · omega
      · exact ⟨x, by simp, by omega, by omega, by simp, by simp, by simp⟩
      · exact ⟨y, by simp, by omega, by omega, by simp, by simp, by simp⟩
      · exact ⟨x, by simp, by omega, by omega, by simp, by simp, by simp⟩
      · omega
    obtain ⟨h, b1, b2, b3, b4, b5, b6⟩ := pick
    have hh : h < es.length ∧ onE es v h = true := by rcases b1 with rfl | rfl | rfl <;> assumption
    refine ⟨h, fr h hh.1 hh.2 b2, hh.2, b3, fun t h1 h2 => ?_⟩
    have c1 := nf t h1
    rcases mem t h2 (freeB_iff.1 h1).1 with rfl | rfl | rfl
    · exact (b4.resolve_left c1)
    · exact (b5.resolve_left c1)
    · exact (b6.resolve_left c1)
  have spec : ∀ v f h, freeB es xs f = true → onE es v f = true → freeB es xs h = true → onE es v h = true → h ≠ f → (∀ y, freeB es xs y = true → onE es v y = true → y = f ∨ y = h) → nxF es xs v f = h := by
    intro v f h hf ho hh hho hne hall
    unfold nxF
    cases hfd : (onL es v).find? fun y => freeB es xs y && y != f with
    | none =>
      have := List.find?_eq_none.1 hfd h (onL_mem.2 ⟨(freeB_iff.1 hh).1, hho⟩)
      simp [hh, hne] at this
    | some y =>
      have hp := List.find?_some hfd
      have hmm := onL_mem.1 (List.mem_of_find?_eq_some hfd)
      simp at hp
      rcases hall y hp.1 hmm.2 with e | e
      · exact absurd e hp.2
      · simpa using e
  refine ⟨g, fun f hf => (freeB_iff.1 hf).1, fun v f hf ho => ?_, fun v f h hf hh ho hho => ?_⟩
  · obtain ⟨h, h1, h2, h3, h4⟩ := base v f hf ho
    rw [spec v f h hf ho h1 h2 h3 h4]
    exact ⟨h1, h2, h3⟩
  · obtain ⟨h', h1, h2, h3, h4⟩ := base v f hf ho
    rw [spec v f h' hf ho h1 h2 h3 h4]
    exact h4 h hh hho
end

/-- How many edges the cycle of e has, and these, from e on. -/
def cyK (es : List (Int × Int)) (nx : Int → Nat → Nat) (e : Nat) : Nat := ((List.range (es.length + 1)).find? fun i => decide (0 < i) && (wyS es nx e i).1 == e).getD 0
def cyP (es : List (Int × Int)) (nx : Int → Nat → Nat) (e k : Nat) : List Int := (List.range k).map fun i => ((wyS es nx e i).1 : Int)
def cyL (es : List (Int × Int)) (nx : Int → Nat → Nat) (e : Nat) : List Int := cyP es nx e (cyK es nx e)
theorem cyP_succ (es : List (Int × Int)) (nx : Int → Nat → Nat) (e k : Nat) : cyP es nx e (k + 1) = cyP es nx e k ++ [((wyS es nx e k).1 : Int)] := by
  unfold cyP
  rw [List.range_succ, List.map_append]
  rfl
theorem cyP_len (es : List (Int × Int)) (nx : Int → Nat → Nat) (e k : Nat) : (cyP es nx e k).length = k := by simp [cyP]
theorem cyP_mem {es : List (Int × Int)} {nx : Int → Nat → Nat} {e k f : Nat} : (f : Int) ∈ cyP es nx e k ↔ ∃ i, i < k ∧ (wyS es nx e i).1 = f := by
  unfold cyP
  simp only [List.mem_map, List.mem_range]
  constructor
  · rintro ⟨i, h, hi⟩
    exact ⟨i, h, by omega⟩
  · rintro ⟨i, h, hi⟩
    exact ⟨i, h, by omega⟩

section
variable {s : Int} {es : List (Int × Int)} {ok : Nat → Bool} {nx : Int → Nat → Nat}
theorem cyK_spec (G : TwoG s es ok nx) {e : Nat} (he : ok e = true) : 0 < cyK es nx e ∧ cyK es nx e ≤ es.length ∧ (wyS es nx e (cyK es nx e)).1 = e ∧ ∀ i, 0 < i → i < cyK es nx e → (wyS es nx e i).1 ≠ e := by
  obtain ⟨K, hK, hKe, hmin⟩ := wy_end G he
  have hKl := wy_len G he hmin
  have hk : cyK es nx e = K := by
    unfold cyK
    cases hf : (List.range (es.length + 1)).find? fun i => decide (0 < i) && (wyS es nx e i).1 == e with
    | none =>
      have := List.find?_eq_none.1 hf K (List.mem_range.2 (by omega))
      simp [hK, hKe] at this
    | some k =>
      have hp := List.find?_some hf
      simp at hp
      obtain ⟨hp1, hp2⟩ := hp
      rcases Nat.lt_trichotomy k K with h | h | h
      · exact absurd hp2 (hmin k hp1 h)
      · exact h
      · have h3 := List.find?_eq_some_iff_append.1 hf
        obtain ⟨_, us, vs, hab, hall⟩ := h3
        have hmem : K ∈ us := by
          have hr : (List.range (es.length + 1))[us.length]? = some k := by rw [hab]; simp
          have hr2 : us.length = k := by
            have := (List.getElem?_eq_some_iff.1 hr)
            obtain ⟨h1, h2⟩ := this
            simpa using h2
          have hlt : K < us.length := by omega
          have : us[K]? = (List.range (es.length + 1))[K]? := by rw [hab, List.getElem?_append_left hlt]
          rw [List.getElem?_eq_getElem hlt, List.getElem?_eq_getElem (by simp; omega)] at this
          have h4 : us[K] = K := by simpa using Option.some.inj this
          rw [← h4]
          exact List.getElem_mem hlt
        have := hall K hmem
        simp [hK, hKe] at this
  rw [hk]
  exact ⟨hK, hKl, hKe, hmin⟩
theorem cyL_mem (G : TwoG s es ok nx) {e f : Nat} (he : ok e = true) : (f : Int) ∈ cyL es nx e ↔ WyIn es ok e f := by
  obtain ⟨h1, _, h3, _⟩ := cyK_spec G he
  unfold cyL
  rw [cyP_mem]
  constructor
  · rintro ⟨i, _, rfl⟩
    exact wyE_in G he i
  · intro h
    exact in_wyE G he h1 h3 h

/-- The edge f is in a cycle of one of the first k edges. -/
def metC (es : List (Int × Int)) (ok : Nat → Bool) (nx : Int → Nat → Nat) (k f : Nat) : Bool := (List.range k).any fun e => ok e && decide ((f : Int) ∈ cyL es nx e)
def leadC (es : List (Int × Int)) (ok : Nat → Bool) (nx : Int → Nat → Nat) (e : Nat) : Bool := ok e && !metC es ok nx e e
/-- The cycles, each from its least edge on. -/
def cyU (es : List (Int × Int)) (ok : Nat → Bool) (nx : Int → Nat → Nat) (k : Nat) : List (List Int) := ((List.range k).filter (leadC es ok nx)).map (cyL es nx)
theorem metC_succ (es : List (Int × Int)) (ok : Nat → Bool) (nx : Int → Nat → Nat) (k f : Nat) : metC es ok nx (k + 1) f = (metC es ok nx k f || (ok k && decide ((f : Int) ∈ cyL es nx k))) := by
  unfold metC
  rw [List.range_succ, List.any_append]
  simp
theorem metC_iff (G : TwoG s es ok nx) {k f : Nat} : metC es ok nx k f = true ↔ ∃ e, e < k ∧ ok e = true ∧ WyIn es ok e f := by
  unfold metC
  rw [List.any_eq_true]
  constructor
  · rintro ⟨e, he, h⟩
    rw [Bool.and_eq_true] at h
    exact ⟨e, List.mem_range.1 he, h.1, (cyL_mem G h.1).1 (by simpa using h.2)⟩
  · rintro ⟨e, he, ho, h⟩
    exact ⟨e, List.mem_range.2 he, by rw [ho]; simpa using (cyL_mem G ho).2 h⟩
/-- An edge that is not new changes no mark. -/
theorem metC_old (G : TwoG s es ok nx) {k : Nat} (h : leadC es ok nx k = false) (f : Nat) : metC es ok nx (k + 1) f = metC es ok nx k f := by
  rw [metC_succ]
  cases ho : ok k
  · simp
  · unfold leadC at h
    rw [ho] at h
    have hm : metC es ok nx k k = true := by simpa using h
    obtain ⟨e, he, heo, hin⟩ := (metC_iff G).1 hm
    cases hb : decide ((f : Int) ∈ cyL es nx k)
    · simp
    · have h1 := (cyL_mem G ho).1 (of_decide_eq_true hb)
      rw [(metC_iff G).2 ⟨e, he, heo, hin.trans h1⟩]
      rfl
/-- None of a new edge's cycle is marked. -/
theorem metC_new (G : TwoG s es ok nx) {k : Nat} (h : leadC es ok nx k = true) (i : Nat) : metC es ok nx k (wyS es nx k i).1 = false := by
  unfold leadC at h
  rw [Bool.and_eq_true] at h
  cases hm : metC es ok nx k (wyS es nx k i).1
  · rfl
  · obtain ⟨e, he, heo, hin⟩ := (metC_iff G).1 hm
    have h2 : metC es ok nx k k = true := (metC_iff G).2 ⟨e, he, heo, hin.trans (wyE_in G h.1 i).symm⟩
    rw [h2] at h
    exact absurd h.2 (by decide)
theorem cyU_yes {k : Nat} (h : leadC es ok nx k = true) : cyU es ok nx (k + 1) = cyU es ok nx k ++ [cyL es nx k] := by
  unfold cyU
  rw [List.range_succ, List.filter_append, List.map_append]
  simp [h]
theorem cyU_no {k : Nat} (h : leadC es ok nx k = false) : cyU es ok nx (k + 1) = cyU es ok nx k := by
  unfold cyU
  rw [List.range_succ, List.filter_append, List.map_append]
  simp [h]
theorem cyU_len (es : List (Int × Int)) (ok : Nat → Bool) (nx : Int → Nat → Nat) (k : Nat) : (cyU es ok nx k).length ≤ k := by
  unfold cyU
  rw [List.length_map]
  exact Nat.le_trans (List.length_filter_le _ _) (by simp)
end

end Go.Proofs.Ythacpadadccioaa
