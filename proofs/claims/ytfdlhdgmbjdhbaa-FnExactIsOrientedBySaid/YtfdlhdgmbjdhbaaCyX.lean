/- The cycles of which an even set of edges is made, as plain lists. No program is named here. -/
import Derived.Test.YtfdlhdgmbjdhbaaCycA
import Derived.Test.YtfdlhdgmbjdhbaaSumA
import Derived.Test.YtfdlhdgmbjdhbaaLead
namespace Go.Proofs.Ytfdlhdgmbjdhbaa
open Go.RowKit

/-- The edge f is in the set. -/
def inB (es : List (Int × Int)) (xs : List Int) (f : Nat) : Bool := decide (f < es.length) && decide ((f : Int) ∈ xs)
def nxW (es : List (Int × Int)) (ok : Nat → Bool) (v : Int) (f : Nat) : Nat := ((onL es v).find? fun y => ok y && y != f).getD 0
/-- Some edges with a second one wherever there is one. -/
theorem twoG_of {s : Int} {es : List (Int × Int)} {ok : Nat → Bool} (g : IsG s es) (hlt : ∀ f, ok f = true → f < es.length)
    (base : ∀ v f, ok f = true → onE es v f = true → ∃ h, ok h = true ∧ onE es v h = true ∧ h ≠ f ∧ ∀ y, ok y = true → onE es v y = true → y = f ∨ y = h) : TwoG s es ok (nxW es ok) := by
  have spec : ∀ v f h, ok f = true → onE es v f = true → ok h = true → onE es v h = true → h ≠ f → (∀ y, ok y = true → onE es v y = true → y = f ∨ y = h) → nxW es ok v f = h := by
    intro v f h hf ho hh hho hne hall
    unfold nxW
    cases hfd : (onL es v).find? fun y => ok y && y != f with
    | none =>
      have := List.find?_eq_none.1 hfd h (onL_mem.2 ⟨hlt h hh, hho⟩)
      simp [hh, hne] at this
    | some y =>
      have hp := List.find?_some hfd
      have hmm := onL_mem.1 (List.mem_of_find?_eq_some hfd)
      simp at hp
      rcases hall y hp.1 hmm.2 with e | e
      · exact absurd e hp.2
      · simpa using e
  refine ⟨g, hlt, fun v f hf ho => ?_, fun v f h hf hh ho hho => ?_⟩
  · obtain ⟨h, h1, h2, h3, h4⟩ := base v f hf ho
    rw [spec v f h hf ho h1 h2 h3 h4]
    exact ⟨h1, h2, h3⟩
  · obtain ⟨h', h1, h2, h3, h4⟩ := base v f hf ho
    rw [spec v f h' hf ho h1 h2 h3 h4]
    exact h4 h hh hho

section
variable {N : Nat} {es : List (Int × Int)} {xs : List Int}
theorem inB_iff {f : Nat} : inB es xs f = true ↔ f < es.length ∧ (f : Int) ∈ xs := by
  unfold inB
  simp
theorem cnt_on (gs : isSetP es.length xs) (v : Int) : cntP es xs xs.length v = ((onL es v).filter fun (f : Nat) => decide ((f : Int) ∈ xs)).length := by
  have h1 : cntP es xs xs.length v = (xs.filter fun z => onE es v z.toNat).length := by
    unfold cntP
    have : ∀ k, k ≤ xs.length → ((List.range k).filter fun i => onE es v (eI xs i).toNat).length = ((xs.take k).filter fun z => onE es v z.toNat).length := by
      intro k
      induction k with
      | zero => intro _; simp
      | succ k ih =>
        intro hk
        rw [List.range_succ, List.filter_append, List.length_append, ih (by omega), take_int (by omega), List.filter_append, List.length_append]
        congr 1
        by_cases h : onE es v (eI xs k).toNat = true <;> simp [h]
    have h2 := this xs.length (Nat.le_refl _)
    rwa [List.take_length] at h2
  have h2 : (xs.filter fun z => onE es v z.toNat) = numsB (fun f => onE es v f && decide ((f : Int) ∈ xs)) es.length := by
    refine asc_ext ((set_asc gs).filter _) (numsB_asc _ _) fun z => ?_
    rw [List.mem_filter, numsB_mem]
    constructor
    · rintro ⟨h3, h4⟩
      have h5 := set_mem gs h3
      exact ⟨z.toNat, by omega, by rw [h4, show ((z.toNat : Nat) : Int) = z by omega]; simpa using h3, by omega⟩
    · rintro ⟨i, hi, h3, rfl⟩
      simp only [Bool.and_eq_true, decide_eq_true_eq] at h3
      exact ⟨h3.2, by rw [Int.toNat_natCast]; exact h3.1⟩
  rw [h1, h2]
  unfold numsB onL
  rw [List.length_map, List.filter_filter]
  congr 1
  apply List.filter_congr
  intro a _
  rw [Bool.and_comm]

theorem two_even (g : IsG N es) (gs : isSetP es.length xs) (he : evenP N es xs) : TwoG N es (inB es xs) (nxW es (inB es xs)) := by
  refine twoG_of g (fun f hf => (inB_iff.1 hf).1) fun v f hf ho => ?_
  obtain ⟨hfl, hfx⟩ := inB_iff.1 hf
  have hv : 0 ≤ v ∧ v < (N : Int) := by
    have h := oth_in' g hfl (oth_on ho)
    rwa [oth_oth] at h
  have hc := he v.toNat (by omega)
  rw [show ((v.toNat : Nat) : Int) = v by omega, cnt_on gs] at hc
  obtain ⟨x, y, z, hL, n1, n2, n3⟩ := onL_three g hv
  have mem : ∀ t, onE es v t = true → t < es.length → t = x ∨ t = y ∨ t = z := fun t h1 h2 => by
    have := onL_mem.2 ⟨h2, h1⟩
    rw [hL] at this
    simpa using this
  have hx := onL_mem.1 (show x ∈ onL es v by rw [hL]; simp)
  have hy := onL_mem.1 (show y ∈ onL es v by rw [hL]; simp)
  have hz := onL_mem.1 (show z ∈ onL es v by rw [hL]; simp)
  rw [hL] at hc
  have pick : ∃ h, (h = x ∨ h = y ∨ h = z) ∧ (h : Int) ∈ xs ∧ h ≠ f ∧ ∀ t, (t = x ∨ t = y ∨ t = z) → (t : Int) ∈ xs → t = f ∨ t = h := by
    by_cases cx : (x : Int) ∈ xs <;> by_cases cy : (y : Int) ∈ xs <;> by_cases cz : (z : Int) ∈ xs <;> simp [cx, cy, cz] at hc
    · rcases mem f ho hfl with rfl | rfl | rfl
      · exact ⟨y, by simp, cy, by omega, fun t ht htx => by rcases ht with rfl | rfl | rfl; exact .inl rfl; exact .inr rfl; exact absurd htx cz⟩
      · exact ⟨x, by simp, cx, by omega, fun t ht htx => by rcases ht with rfl | rfl | rfl; exact .inr rfl; exact .inl rfl; exact absurd htx cz⟩
      · exact absurd hfx cz
    · rcases mem f ho hfl with rfl | rfl | rfl
      · exact ⟨z, by simp, cz, by omega, fun t ht htx => by rcases ht with rfl | rfl | rfl; exact .inl rfl; exact absurd htx cy; exact .inr rfl⟩
      · exact absurd hfx cy
      · exact ⟨x, by simp, cx, by omega, fun t ht htx => by rcases ht with rfl | rfl | rfl; exact .inr rfl; exact absurd htx cy; exact .inl rfl⟩
    · rcases mem f ho hfl with rfl | rfl | rfl
      · exact absurd hfx cx
      · exact ⟨z, by simp, cz, by omega, fun t ht htx => by rcases ht with rfl | rfl | rfl; exact absurd htx cx; exact .inl rfl; exact .inr rfl⟩
      · exact ⟨y, by simp, cy, by omega, fun t ht htx => by rcases ht with rfl | rfl | rfl; exact absurd htx cx; exact .inr rfl; exact .inl rfl⟩
    · rcases mem f ho hfl with rfl | rfl | rfl
      · exact absurd hfx cx
      · exact absurd hfx cy
      · exact absurd hfx cz
  obtain ⟨h, h1, h2, h3, h4⟩ := pick
  have hh : h < es.length ∧ onE es v h = true := by rcases h1 with rfl | rfl | rfl <;> assumption
  exact ⟨h, inB_iff.2 ⟨hh.1, h2⟩, hh.2, h3, fun y' hy1 hy2 => h4 y' (mem y' hy2 (inB_iff.1 hy1).1) (inB_iff.1 hy1).2⟩
end

/- By the places in the set. -/
def eX (xs : List Int) (i : Nat) : Nat := (eI xs i).toNat
/-- The j-th edge of the set is in the cycle of the i-th one. -/
def joinB (es : List (Int × Int)) (xs : List Int) (i j : Nat) : Bool := decide (eI xs j ∈ cyL es (nxW es (inB es xs)) (eX xs i))
def metX (es : List (Int × Int)) (xs : List Int) (i j : Nat) : Bool := (List.range i).any fun k => joinB es xs k j
def grpX (es : List (Int × Int)) (xs : List Int) (i : Nat) : List Int := ((List.range xs.length).filter (joinB es xs i)).map (eI xs)
def cycX (es : List (Int × Int)) (xs : List Int) (i : Nat) : List (List Int) := ((List.range i).filter fun k => !metX es xs k k).map (grpX es xs)

section
variable {N : Nat} {es : List (Int × Int)} {xs : List Int}
theorem eX_at (gs : isSetP es.length xs) {i : Nat} (hi : i < xs.length) : eI xs i = (eX xs i : Int) ∧ eX xs i < es.length := by
  have h := (gs i hi).1
  unfold eX
  omega
theorem eX_in (gs : isSetP es.length xs) {i : Nat} (hi : i < xs.length) : inB es xs (eX xs i) = true := by
  obtain ⟨h1, h2⟩ := eX_at gs hi
  exact inB_iff.2 ⟨h2, by rw [← h1]; exact eI_mem hi⟩
theorem join_iff (g : IsG N es) (gs : isSetP es.length xs) (he : evenP N es xs) {i j : Nat} (hi : i < xs.length) (hj : j < xs.length) : joinB es xs i j = true ↔ WyIn es (inB es xs) (eX xs i) (eX xs j) := by
  unfold joinB
  rw [decide_eq_true_eq, (eX_at gs hj).1]
  exact cyL_mem (two_even g gs he) (eX_in gs hi)
theorem join_self (g : IsG N es) (gs : isSetP es.length xs) (he : evenP N es xs) {i : Nat} (hi : i < xs.length) : joinB es xs i i = true := (join_iff g gs he hi hi).2 (WyIn.refl _ _ _)
theorem join_symm (g : IsG N es) (gs : isSetP es.length xs) (he : evenP N es xs) {i j : Nat} (hi : i < xs.length) (hj : j < xs.length) (h : joinB es xs i j = true) : joinB es xs j i = true := (join_iff g gs he hj hi).2 ((join_iff g gs he hi hj).1 h).symm
theorem join_trans (g : IsG N es) (gs : isSetP es.length xs) (he : evenP N es xs) {i j k : Nat} (hi : i < xs.length) (hj : j < xs.length) (hk : k < xs.length) (h1 : joinB es xs i j = true) (h2 : joinB es xs j k = true) : joinB es xs i k = true :=
  (join_iff g gs he hi hk).2 (((join_iff g gs he hi hj).1 h1).trans ((join_iff g gs he hj hk).1 h2))
theorem metX_succ (es : List (Int × Int)) (xs : List Int) (i j : Nat) : metX es xs (i + 1) j = (metX es xs i j || joinB es xs i j) := by
  unfold metX
  rw [List.range_succ, List.any_append]
  simp
theorem metX_iff {i j : Nat} : metX es xs i j = true ↔ ∃ k, k < i ∧ joinB es xs k j = true := by
  unfold metX
  rw [List.any_eq_true]
  simp only [List.mem_range]
theorem metX_zero (es : List (Int × Int)) (xs : List Int) (j : Nat) : metX es xs 0 j = false := rfl
/-- An edge that is met changes no mark. -/
theorem metX_old (g : IsG N es) (gs : isSetP es.length xs) (he : evenP N es xs) {i j : Nat} (hi : i < xs.length) (hj : j < xs.length) (hm : metX es xs i i = true) : metX es xs (i + 1) j = metX es xs i j := by
  rw [metX_succ]
  cases hb : joinB es xs i j
  · simp
  · obtain ⟨k, hk, h⟩ := metX_iff.1 hm
    rw [metX_iff.2 ⟨k, hk, join_trans g gs he (by omega) hi hj h hb⟩]
    rfl
/-- None before a new edge is joined with it. -/
theorem join_before (g : IsG N es) (gs : isSetP es.length xs) (he : evenP N es xs) {i j : Nat} (hi : i < xs.length) (hj : j < i) (hm : metX es xs i i = false) : joinB es xs i j = false := by
  cases hb : joinB es xs i j
  · rfl
  · have : metX es xs i i = true := metX_iff.2 ⟨j, hj, join_symm g gs he hi (by omega) hb⟩
    rw [hm] at this
    cases this
theorem cycX_yes {i : Nat} (h : metX es xs i i = false) : cycX es xs (i + 1) = cycX es xs i ++ [grpX es xs i] := by
  unfold cycX
  rw [List.range_succ, List.filter_append, List.map_append]
  simp [h]
theorem cycX_no {i : Nat} (h : metX es xs i i = true) : cycX es xs (i + 1) = cycX es xs i := by
  unfold cycX
  rw [List.range_succ, List.filter_append, List.map_append]
  simp [h]
theorem cycX_len (es : List (Int × Int)) (xs : List Int) (i : Nat) : (cycX es xs i).length ≤ i := by
  unfold cycX
  rw [List.length_map]
  exact Nat.le_trans (List.length_filter_le _ _) (by simp)
theorem grpX_len (es : List (Int × Int)) (xs : List Int) (i : Nat) : (grpX es xs i).length ≤ xs.length := by
  unfold grpX
  rw [List.length_map]
  exact Nat.le_trans (List.length_filter_le _ _) (by simp)

/-- The edges of a cycle in order are those that are joined with its first one. -/
theorem grp_sort (g : IsG N es) (gs : isSetP es.length xs) (he : evenP N es xs) {i : Nat} (hi : i < xs.length) : ((cyL es (nxW es (inB es xs)) (eX xs i)).mergeSort fun x y => decide (x ≤ y)) = grpX es xs i := by
  have T := two_even g gs he
  have hin := eX_in gs hi
  have hasc : (grpX es xs i).Pairwise (· < ·) := by
    unfold grpX
    have h1 := set_asc gs
    refine List.pairwise_map.2 ?_
    refine List.Pairwise.filter _ ?_
    refine List.pairwise_iff_getElem.2 fun a b ha hb hab => ?_
    simp only [List.length_range] at ha hb
    simp only [List.getElem_range]
    rw [eI_lt ha, eI_lt hb]
    exact List.pairwise_iff_getElem.1 h1 a b ha hb hab
  have hmem : ∀ z, z ∈ cyL es (nxW es (inB es xs)) (eX xs i) ↔ z ∈ grpX es xs i := by
    intro z
    unfold grpX
    rw [List.mem_map]
    constructor
    · intro h
      have hz : ∃ f : Nat, z = f ∧ inB es xs f = true := by
        have h' := h
        unfold cyL cyP at h'
        obtain ⟨j, _, rfl⟩ := List.mem_map.1 h'
        exact ⟨_, rfl, (wyS_ok T hin j).ok⟩
      obtain ⟨f, rfl, hf⟩ := hz
      obtain ⟨j, hj, e⟩ := List.getElem_of_mem (inB_iff.1 hf).2
      refine ⟨j, List.mem_filter.2 ⟨List.mem_range.2 hj, ?_⟩, by rw [eI_lt hj, e]⟩
      unfold joinB
      rw [eI_lt hj, e]
      exact decide_eq_true h
    · rintro ⟨j, hj, rfl⟩
      have := (List.mem_filter.1 hj).2
      unfold joinB at this
      exact of_decide_eq_true this
  have hnd : (cyL es (nxW es (inB es xs)) (eX xs i)).Nodup := by
    obtain ⟨h1, h2, h3, h4⟩ := cyK_spec T hin
    unfold cyL cyP
    refine List.pairwise_map.2 (List.pairwise_iff_getElem.2 fun a b ha hb hab => ?_)
    simp only [List.length_range] at ha hb
    simp only [List.getElem_range]
    have := wy_inj T hin h4 hab hb
    omega
  have hp : (cyL es (nxW es (inB es xs)) (eX xs i)).Perm (grpX es xs i) := by
    refine (List.perm_ext_iff_of_nodup hnd (hasc.imp fun h => by omega)).2 hmem
  have h1 : ((cyL es (nxW es (inB es xs)) (eX xs i)).mergeSort fun x y => decide (x ≤ y)).Pairwise (fun a b => decide (a ≤ b) = true) := List.pairwise_mergeSort (fun a b c h1 h2 => by simp at *; omega) (fun a b => by simp; omega) _
  have h2 := (List.mergeSort_perm (cyL es (nxW es (inB es xs)) (eX xs i)) (fun x y => decide (x ≤ y))).trans hp
  exact h2.eq_of_pairwise (fun a b _ _ h1 h2 => by simp at h1 h2; omega) h1 (hasc.imp fun h => by simp; omega)

/- Leaders of the edges of the set alone. -/
def keptE (es : List (Int × Int)) (xs : List Int) (k : Nat) : List (Int × Int) := (xs.take k).map fun z => (eA es z.toNat, eB es z.toNat)
theorem keptE_len (es : List (Int × Int)) {xs : List Int} {k : Nat} (hk : k ≤ xs.length) : (keptE es xs k).length = k := by
  unfold keptE
  rw [List.length_map, List.length_take]
  omega
theorem keptE_at {k i : Nat} (hi : i < k) (hk : k ≤ xs.length) : eA (keptE es xs k) i = eA es (eX xs i) ∧ eB (keptE es xs k) i = eB es (eX xs i) := by
  rw [eA_lt (by rw [keptE_len es hk]; exact hi), eB_lt (by rw [keptE_len es hk]; exact hi)]
  unfold keptE eX
  simp only [List.getElem_map, List.getElem_take]
  rw [eI_lt (by omega)]
  exact ⟨rfl, rfl⟩
theorem keptE_succ {k : Nat} (hk : k < xs.length) : keptE es xs (k + 1) = keptE es xs k ++ [(eA es (eX xs k), eB es (eX xs k))] := by
  unfold keptE eX
  rw [take_int hk, List.map_append]
  rfl
theorem on_ends {v : Int} {e : Nat} (h : onE es v e = true) : v = eA es e ∨ v = eB es e := by
  unfold onE at h
  simp at h
  omega
theorem kept_conn (gs : isSetP es.length xs) {i j : Nat} (hi : i < xs.length) (hj : j < xs.length) : Conn (keptE es xs xs.length) (eA es (eX xs i)) (eA es (eX xs j)) ↔ WyIn es (inB es xs) (eX xs i) (eX xs j) := by
  have onA : ∀ e, onE es (eA es e) e = true := fun e => by simp [onE]
  have onB : ∀ e, onE es (eB es e) e = true := fun e => by simp [onE]
  have place : ∀ f, inB es xs f = true → ∃ k, k < xs.length ∧ eX xs k = f := fun f hf => by
    obtain ⟨k, hk, e⟩ := List.getElem_of_mem (inB_iff.1 hf).2
    exact ⟨k, hk, by unfold eX; rw [eI_lt hk, e, Int.toNat_natCast]⟩
  have across : ∀ f, inB es xs f = true → Conn (keptE es xs xs.length) (eA es f) (eB es f) := fun f hf => by
    obtain ⟨k, hk, rfl⟩ := place f hf
    have h := Conn.edge (es := keptE es xs xs.length) (i := k) (by rw [keptE_len es (Nat.le_refl _)]; exact hk)
    rwa [(keptE_at hk (Nat.le_refl _)).1, (keptE_at hk (Nat.le_refl _)).2] at h
  constructor
  · intro h
    have h1 := h (fun x => ∃ f, inB es xs f = true ∧ onE es x f = true ∧ WyIn es (inB es xs) (eX xs i) f) ⟨eX xs i, eX_in gs hi, onA _, WyIn.refl _ _ _⟩ (fun k hk => by
      rw [keptE_len es (Nat.le_refl _)] at hk
      rw [(keptE_at hk (Nat.le_refl _)).1, (keptE_at hk (Nat.le_refl _)).2]
      constructor
      · rintro ⟨f, h1, h2, h3⟩
        exact ⟨eX xs k, eX_in gs hk, onB _, h3.next h1 (eX_in gs hk) h2 (onA _)⟩
      · rintro ⟨f, h1, h2, h3⟩
        exact ⟨eX xs k, eX_in gs hk, onA _, h3.next h1 (eX_in gs hk) h2 (onB _)⟩)
    obtain ⟨f, h2, h3, h4⟩ := h1
    exact h4.next h2 (eX_in gs hj) h3 (onA _)
  · intro h
    refine h (fun f => Conn (keptE es xs xs.length) (eA es (eX xs i)) (eA es f)) (Conn.refl _ _) ?_
    intro x y v hx okx oky hvx hvy
    have h1 : Conn (keptE es xs xs.length) (eA es x) v := by
      rcases on_ends hvx with rfl | rfl
      · exact Conn.refl _ _
      · exact across x okx
    have h2 : Conn (keptE es xs xs.length) v (eA es y) := by
      rcases on_ends hvy with rfl | rfl
      · exact Conn.refl _ _
      · exact (across y oky).symm
    exact hx.trans (h1.trans h2)
theorem kept_ends (g : IsG N es) (gs : isSetP es.length xs) : EndsIn N (keptE es xs xs.length) := fun i hi => by
  rw [keptE_len es (Nat.le_refl _)] at hi
  rw [(keptE_at hi (Nat.le_refl _)).1, (keptE_at hi (Nat.le_refl _)).2]
  exact endsIn_of g _ (eX_at gs hi).2
/-- Leaders tell whether edges are joined. -/
theorem lead_join (g : IsG N es) (gs : isSetP es.length xs) (he : evenP N es xs) {ls : List Int} (hl : IsLead N (keptE es xs xs.length) ls) {i j : Nat} (hi : i < xs.length) (hj : j < xs.length) : (eI ls (eA es (eX xs j)).toNat == eI ls (eA es (eX xs i)).toNat) = joinB es xs i j := by
  have hE := endsIn_of g
  have hei := (hE _ (eX_at gs hi).2).1
  have hej := (hE _ (eX_at gs hj).2).1
  have key : eI ls (eA es (eX xs j)).toNat = eI ls (eA es (eX xs i)).toNat ↔ joinB es xs i j = true := by
    rw [join_iff g gs he hi hj, ← kept_conn gs hi hj]
    constructor
    · intro h
      have h1 := (hl.1.at_ (eA es (eX xs i)).toNat (by omega)).2.2
      have h2 := (hl.1.at_ (eA es (eX xs j)).toNat (by omega)).2.2
      rw [show (((eA es (eX xs i)).toNat : Nat) : Int) = eA es (eX xs i) by omega] at h1
      rw [show (((eA es (eX xs j)).toNat : Nat) : Int) = eA es (eX xs j) by omega, h] at h2
      exact h1.trans h2.symm
    · intro h
      refine (hl.conn (kept_ends g gs) (by omega) ?_).symm
      rw [show (((eA es (eX xs i)).toNat : Nat) : Int) = eA es (eX xs i) by omega, show (((eA es (eX xs j)).toNat : Nat) : Int) = eA es (eX xs j) by omega]
      exact h
  cases hb : joinB es xs i j
  · rw [hb] at key
    simpa using key
  · rw [hb] at key
    simpa using key
end

end Go.Proofs.Ytfdlhdgmbjdhbaa
