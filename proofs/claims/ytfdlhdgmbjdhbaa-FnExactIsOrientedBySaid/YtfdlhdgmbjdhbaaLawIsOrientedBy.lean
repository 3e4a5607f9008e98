/- The law on IsOrientedBy, walked out of the contracts: it returns true, whatever lies in memory. -/
import Derived.Test.YtfdlhdgmbjdhbaaDbl
import Derived.Test.YtfdlhdgmbjdhbaaCycO
import Derived.Test.YtfdlhdgmbjdhbaaCyM
import Derived.Test.YtfdlhdgmbjdhbaaMapD
import Derived.Test.YtfdlhdgmbjdhbaaRndH
import Derived.Deep.RegionHeld
import Derived.Test.YtfdlhdgmbjdhbaaImplG
import Derived.StillTailTactics
import Derived.Test.YtfdlhdgmbjdhbaaListsT
import Derived.Test.YtfdlhdgmbjdhbaaLawsF
import Derived.Deep.RegionWith
import Derived.Deep.DeepCutAuto

/- Orientations of double covers, plainly: the directed edges along which the cycles are gone, and the sums of the model. -/
namespace Go.Proofs.Ytfdlhdgmbjdhbaa
open Go.RowKit

section
variable {N : Nat} {es : List (Int × Int)} {xs : List Int}
abbrev nxS (es : List (Int × Int)) (xs : List Int) : Int → Nat → Nat := nxW es (inB es xs)
/-- How many edges the walk along a cycle has. -/
def perS (es : List (Int × Int)) (xs : List Int) : Nat := cyK es (nxS es xs) (eX xs 0)
/-- The walk along a cycle from its first edge. -/
abbrev wkS (es : List (Int × Int)) (xs : List Int) (j : Nat) : DirT := stW es (nxS es xs) (eX xs 0) j
def revD (d : DirT) : DirT := (d.1, d.2.2, d.2.1)
/-- The walk in one direction or the other. -/
def seqS (es : List (Int × Int)) (xs : List Int) (t j : Nat) : DirT := if t = 0 then wkS es xs j else revD (wkS es xs ((perS es xs - j) % perS es xs))

/-- In a cycle each edge is met from the first. -/
theorem cyc_all (g : IsG N es) (gs : isSetP es.length xs) (hc : cycP N es xs) : 0 < xs.length ∧ ∀ j, j < xs.length → joinB es xs 0 j = true := by
  obtain ⟨he, h1⟩ := hc
  have h0 : 0 < xs.length := by
    have := cycX_len es xs xs.length
    omega
  unfold cycX at h1
  rw [List.length_map] at h1
  have in0 : 0 ∈ (List.range xs.length).filter fun k => !metX es xs k k := List.mem_filter.2 ⟨List.mem_range.2 h0, by rw [metX_zero]; rfl⟩
  have only : ∀ k, k ∈ (List.range xs.length).filter (fun k => !metX es xs k k) → k = 0 := by
    obtain ⟨a, ha⟩ := List.length_eq_one_iff.1 h1
    rw [ha] at in0 ⊢
    intro k hk
    rw [List.mem_singleton] at in0 hk
    omega
  refine ⟨h0, fun j hj => ?_⟩
  have key : ∀ k, k < xs.length → joinB es xs k j = true → ∃ k', k' ≤ k ∧ joinB es xs k' j = true ∧ metX es xs k' k' = false := by
    intro k
    induction k using Nat.strongRecOn with
    | _ k ih =>
      intro hk hj2
      cases hm : metX es xs k k
      · exact ⟨k, Nat.le_refl _, hj2, hm⟩
      · obtain ⟨k2, hk2, h2⟩ := metX_iff.1 hm
        obtain ⟨k3, a, b, c⟩ := ih k2 hk2 (by omega) (join_trans g gs he (by omega) hk hj h2 hj2)
        exact ⟨k3, by omega, b, c⟩
  obtain ⟨k, hk, hkj, hkm⟩ := key j hj (join_self g gs he hj)
  have := only k (List.mem_filter.2 ⟨List.mem_range.2 (by omega), by rw [hkm]; rfl⟩)
  rw [this] at hkj
  exact hkj

/-- What is known of the walk along a cycle. -/
structure CycF (N : Nat) (es : List (Int × Int)) (xs : List Int) : Prop where
  g : IsG N es
  gs : isSetP es.length xs
  ev : evenP N es xs
  pos : 0 < xs.length
  T : TwoG N es (inB es xs) (nxS es xs)
  ok : inB es xs (eX xs 0) = true
  kpos : 0 < perS es xs
  kle : perS es xs ≤ es.length
  kend : (wyS es (nxS es xs) (eX xs 0) (perS es xs)).1 = eX xs 0
  kmin : ∀ i, 0 < i → i < perS es xs → (wyS es (nxS es xs) (eX xs 0) i).1 ≠ eX xs 0
  all : ∀ f : Nat, (f : Int) ∈ xs ↔ ∃ j, j < perS es xs ∧ (wyS es (nxS es xs) (eX xs 0) j).1 = f
theorem cycF_of (g : IsG N es) (gs : isSetP es.length xs) (hc : cycP N es xs) : CycF N es xs := by
  obtain ⟨h0, hj⟩ := cyc_all g gs hc
  have T := two_even g gs hc.1
  have hok := eX_in gs h0
  obtain ⟨k1, k2, k3, k4⟩ := cyK_spec T hok
  refine ⟨g, gs, hc.1, h0, T, hok, k1, k2, k3, k4, fun f => ?_⟩
  have hm : (f : Int) ∈ cyL es (nxS es xs) (eX xs 0) ↔ ∃ j, j < perS es xs ∧ (wyS es (nxS es xs) (eX xs 0) j).1 = f := cyP_mem
  rw [← hm]
  constructor
  · intro hf
    obtain ⟨j, hjl, hjf⟩ := List.mem_iff_getElem.1 hf
    have h1 := hj j hjl
    unfold joinB at h1
    rw [decide_eq_true_eq] at h1
    have e : eI xs j = f := by rw [eI_lt hjl]; exact hjf
    rwa [e] at h1
  · intro hf
    have h1 := (cyL_mem T hok).1 hf
    obtain ⟨i, hi, hif⟩ := hm.1 hf
    have h2 := (wyS_ok T hok i).ok
    rw [hif] at h2
    exact (inB_iff.1 h2).2

theorem wk_fst (es : List (Int × Int)) (xs : List Int) (j : Nat) : (wkS es xs j).1 = ((wyS es (nxS es xs) (eX xs 0) j).1 : Int) := rfl
theorem wk_end (C : CycF N es xs) : wkS es xs (perS es xs) = wkS es xs 0 := by
  unfold wkS stW
  rw [wy_close C.T C.ok C.kend]
theorem wk_inj (C : CycF N es xs) {i j : Nat} (hi : i < perS es xs) (hj : j < perS es xs) (h : (wkS es xs i).1 = (wkS es xs j).1) : i = j := by
  rw [wk_fst, wk_fst] at h
  have h' : (wyS es (nxS es xs) (eX xs 0) i).1 = (wyS es (nxS es xs) (eX xs 0) j).1 := by omega
  rcases Nat.lt_trichotomy i j with k | k | k
  · exact absurd h' (wy_inj C.T C.ok C.kmin k hj)
  · exact k
  · exact absurd h'.symm (wy_inj C.T C.ok C.kmin k hi)
theorem per_two (C : CycF N es xs) : 2 ≤ perS es xs := by
  have h1 := C.kpos
  by_cases h : perS es xs = 1
  · have h2 := C.kend
    rw [h] at h2
    have hv := wyS_ok C.T C.ok 0
    exact absurd h2 (C.T.nx_ok _ _ hv.ok hv.on).2.2
  · omega
/-- A step of the walk is an edge in one of its directions. -/
theorem wk_al (C : CycF N es xs) (j : Nat) : wkS es xs j = alT es (wyS es (nxS es xs) (eX xs 0) j).1 0 ∨ wkS es xs j = alT es (wyS es (nxS es xs) (eX xs 0) j).1 1 := by
  have hv := (wyS_ok C.T C.ok j).on
  unfold wkS stW alT
  obtain ⟨f, hf⟩ : ∃ f, (wyS es (nxS es xs) (eX xs 0) j).1 = f := ⟨_, rfl⟩
  obtain ⟨v, hvv⟩ : ∃ v, (wyS es (nxS es xs) (eX xs 0) j).2 = v := ⟨_, rfl⟩
  rw [hf, hvv] at hv ⊢
  unfold othE
  rcases on_ends hv with e | e
  · right
    rw [if_neg (by omega), e]
    ext <;> simp <;> omega
  · left
    rw [if_pos rfl, e]
    ext <;> simp <;> omega
theorem al_ne (g : IsG N es) {f : Nat} (hf : f < es.length) : alT es f 0 ≠ alT es f 1 := by
  have h := (g.1.2 f hf).2.2
  unfold alT
  rw [if_pos rfl, if_neg (by omega)]
  intro e
  simp only [Prod.mk.injEq, true_and] at e
  exact h.2.2 e.1
theorem rev_al (es : List (Int × Int)) (f : Nat) : revD (alT es f 0) = alT es f 1 ∧ revD (alT es f 1) = alT es f 0 := by
  unfold revD alT
  simp
theorem rev_rev (d : DirT) : revD (revD d) = d := rfl
/-- An edge of a cycle is gone along from its lesser end, if one goes on from the first edge's greater end. -/
def fwB (es : List (Int × Int)) (xs : List Int) (f : Nat) : Bool := decide (∃ j, j < perS es xs ∧ wkS es xs j = alT es f 0)
theorem fw_zero (f : Nat) : (∃ j, j < perS es xs ∧ wkS es xs j = alT es f 0) ↔ fwB es xs f = true := by unfold fwB; rw [decide_eq_true_eq]
theorem fw_one (C : CycF N es xs) {f : Nat} (hf : (f : Int) ∈ xs) (hl : f < es.length) : (∃ j, j < perS es xs ∧ wkS es xs j = alT es f 1) ↔ fwB es xs f = false := by
  obtain ⟨j, hj, hjf⟩ := (C.all f).1 hf
  unfold fwB
  rw [decide_eq_false_iff_not]
  constructor
  · rintro ⟨i, hi, h1⟩ ⟨k, hk, h2⟩
    have := wk_inj C hi hk (by rw [h1, h2]; rfl)
    subst this
    exact al_ne C.g hl (h2.symm.trans h1)
  · intro h
    rcases wk_al C j with e | e
    · rw [hjf] at e
      exact absurd ⟨j, hj, e⟩ h
    · rw [hjf] at e
      exact ⟨j, hj, e⟩

theorem seq_mem (es : List (Int × Int)) (xs : List Int) (hK : 0 < perS es xs) (t : Nat) (d : DirT) : (∃ j, j < perS es xs ∧ seqS es xs t j = d) ↔ ∃ j, j < perS es xs ∧ wkS es xs j = (if t = 0 then d else revD d) := by
  unfold seqS
  by_cases h : t = 0
  · simp only [if_pos h]
  · simp only [if_neg h]
    constructor
    · rintro ⟨j, hj, e⟩
      exact ⟨_, Nat.mod_lt _ hK, by rw [← e, rev_rev]⟩
    · rintro ⟨j, hj, e⟩
      refine ⟨(perS es xs - j) % perS es xs, Nat.mod_lt _ hK, ?_⟩
      have : (perS es xs - (perS es xs - j) % perS es xs) % perS es xs = j := by
        by_cases h0 : j = 0
        · subst h0
          rw [Nat.sub_zero, Nat.mod_self, Nat.sub_zero, Nat.mod_self]
        · rw [Nat.mod_eq_of_lt (a := perS es xs - j) (by omega), Nat.sub_sub_self (by omega), Nat.mod_eq_of_lt hj]
      rw [this, e, rev_rev]
theorem seq_inj (C : CycF N es xs) (t : Nat) {i j : Nat} (hi : i < perS es xs) (hj : j < perS es xs) (h : seqS es xs t i = seqS es xs t j) : i = j := by
  unfold seqS at h
  by_cases ht : t = 0
  · rw [if_pos ht, if_pos ht] at h
    exact wk_inj C hi hj (congrArg Prod.fst h)
  · rw [if_neg ht, if_neg ht] at h
    have h2 := wk_inj C (Nat.mod_lt _ C.kpos) (Nat.mod_lt _ C.kpos) (show (revD (wkS es xs ((perS es xs - i) % perS es xs))).1 = (revD (wkS es xs ((perS es xs - j) % perS es xs))).1 from congrArg Prod.fst h)
    by_cases h0 : i = 0
    · subst h0
      rw [Nat.sub_zero, Nat.mod_self] at h2
      by_cases h1 : j = 0
      · omega
      · rw [Nat.mod_eq_of_lt (by omega)] at h2; omega
    · rw [Nat.mod_eq_of_lt (a := perS es xs - i) (by omega)] at h2
      by_cases h1 : j = 0
      · subst h1
        rw [Nat.sub_zero, Nat.mod_self] at h2; omega
      · rw [Nat.mod_eq_of_lt (by omega)] at h2; omega
theorem seq_start (es : List (Int × Int)) (xs : List Int) (t : Nat) (ht : t < 2) : seqS es xs t 0 = alT es (eX xs 0) t := by
  unfold seqS
  by_cases h : t = 0
  · subst h
    rw [if_pos rfl]
    exact stW_zero _ _ _
  · obtain rfl : t = 1 := by omega
    rw [if_neg h, Nat.sub_zero, Nat.mod_self]
    show revD (stW es (nxS es xs) (eX xs 0) 0) = _
    rw [stW_zero, (rev_al es _).1]
theorem seq_end (C : CycF N es xs) (t : Nat) : seqS es xs t (perS es xs) = seqS es xs t 0 := by
  unfold seqS
  by_cases h : t = 0
  · rw [if_pos h, if_pos h, wk_end C]
  · rw [if_neg h, if_neg h, Nat.sub_self, Nat.sub_zero, Nat.zero_mod, Nat.mod_self]

/-- The directed edges of one cycle, and of the first cycles of a list. -/
def seqL (es : List (Int × Int)) (xs : List Int) (t : Nat) : List DirT := (List.range (perS es xs)).map (seqS es xs t)
theorem seqL_nodup (C : CycF N es xs) (t : Nat) : (seqL es xs t).Nodup := by
  unfold seqL List.Nodup
  rw [List.pairwise_map]
  refine List.Pairwise.imp_of_mem (fun {i j} hi hj hij e => ?_) (List.pairwise_lt_range (n := perS es xs))
  have := seq_inj C t (List.mem_range.1 hi) (List.mem_range.1 hj) e
  omega
theorem seqL_iff (C : CycF N es xs) (t : Nat) (d : DirT) : d ∈ seqL es xs t ↔ ∃ j, j < perS es xs ∧ wkS es xs j = (if t = 0 then d else revD d) := by
  rw [← seq_mem es xs C.kpos t d]
  unfold seqL
  simp only [List.mem_map, List.mem_range]
/-- Whether a cycle goes along an edge from its lesser end. -/
theorem seqL_zero (C : CycF N es xs) {t f : Nat} (ht : t < 2) (hl : f < es.length) : alT es f 0 ∈ seqL es xs t ↔ (f : Int) ∈ xs ∧ fwB es xs f = decide (t = 0) := by
  rw [seqL_iff C]
  have hin : ∀ d, d = alT es f 0 ∨ d = alT es f 1 → (∃ j, j < perS es xs ∧ wkS es xs j = d) → (f : Int) ∈ xs := by
    rintro d hd ⟨j, hj, e⟩
    refine (C.all f).2 ⟨j, hj, ?_⟩
    have h1 := congrArg Prod.fst e
    rw [wk_fst] at h1
    have h2 : d.1 = (f : Int) := by rcases hd with rfl | rfl <;> rfl
    omega
  rcases (by omega : t = 0 ∨ t = 1) with rfl | rfl
  · rw [if_pos rfl]
    constructor
    · intro h
      have hf := hin _ (.inl rfl) h
      exact ⟨hf, by rw [(fw_zero f).1 h]; rfl⟩
    · rintro ⟨hf, h⟩
      exact (fw_zero f).2 (by rw [h]; rfl)
  · rw [if_neg (by omega), (rev_al es f).1]
    constructor
    · intro h
      have hf := hin _ (.inr rfl) h
      exact ⟨hf, by rw [(fw_one C hf hl).1 h]; rfl⟩
    · rintro ⟨hf, h⟩
      exact (fw_one C hf hl).2 (by rw [h]; rfl)
theorem seqL_one (C : CycF N es xs) {t f : Nat} (ht : t < 2) (hl : f < es.length) : alT es f 1 ∈ seqL es xs t ↔ (f : Int) ∈ xs ∧ fwB es xs f = !decide (t = 0) := by
  rw [seqL_iff C]
  have hin : ∀ d, d = alT es f 0 ∨ d = alT es f 1 → (∃ j, j < perS es xs ∧ wkS es xs j = d) → (f : Int) ∈ xs := by
    rintro d hd ⟨j, hj, e⟩
    refine (C.all f).2 ⟨j, hj, ?_⟩
    have h1 := congrArg Prod.fst e
    rw [wk_fst] at h1
    have h2 : d.1 = (f : Int) := by rcases hd with rfl | rfl <;> rfl
    omega
  rcases (by omega : t = 0 ∨ t = 1) with rfl | rfl
  · rw [if_pos rfl]
    constructor
    · intro h
      have hf := hin _ (.inr rfl) h
      exact ⟨hf, by rw [(fw_one C hf hl).1 h]; rfl⟩
    · rintro ⟨hf, h⟩
      exact (fw_one C hf hl).2 (by rw [h]; rfl)
  · rw [if_neg (by omega), (rev_al es f).2]
    constructor
    · intro h
      have hf := hin _ (.inl rfl) h
      exact ⟨hf, by rw [(fw_zero f).1 h]; rfl⟩
    · rintro ⟨hf, h⟩
      exact (fw_zero f).2 (by rw [h]; rfl)
theorem seqL_al (C : CycF N es xs) (t : Nat) {d : DirT} (h : d ∈ seqL es xs t) : ∃ f, f < es.length ∧ (d = alT es f 0 ∨ d = alT es f 1) := by
  obtain ⟨j, hj, e⟩ := (seqL_iff C t d).1 h
  have hl := C.T.lt _ (wyS_ok C.T C.ok j).ok
  refine ⟨(wyS es (nxS es xs) (eX xs 0) j).1, hl, ?_⟩
  by_cases ht : t = 0
  · rw [if_pos ht] at e
    rw [← e]
    exact wk_al C j
  · rw [if_neg ht] at e
    have e2 : d = revD (wkS es xs j) := by rw [e]; rfl
    rcases wk_al C j with k | k
    · right; rw [e2, k, (rev_al es _).1]
    · left; rw [e2, k, (rev_al es _).2]
end

/- All cycles of a list, with turns. -/
section
variable {N : Nat} {es : List (Int × Int)}
def dirU (es : List (Int × Int)) (Ls : List (List Int)) (ts : List Int) : Nat → List DirT
  | 0 => []
  | i + 1 => dirU es Ls ts i ++ seqL es (lI Ls i) (eI ts i).toNat
/-- The sum of an edge in the model. -/
def smU (es : List (Int × Int)) (Ls : List (List Int)) (ts : List Int) (e : Nat) : Nat → Int
  | 0 => 0
  | i + 1 => smU es Ls ts e i + (if (e : Int) ∈ lI Ls i then (if fwB es (lI Ls i) e = decide (eI ts i = 0) then 1 else -1) else 0)
def orientB (es : List (Int × Int)) (Ls : List (List Int)) (ts : List Int) : Bool := decide (dirU es Ls ts Ls.length).Nodup

theorem count_iff {P : Prop} [Decidable P] {α : Type} [BEq α] [LawfulBEq α] {l : List α} (h : l.Nodup) (a : α) (hp : a ∈ l ↔ P) : l.count a = if P then 1 else 0 := by
  by_cases hP : P
  · rw [if_pos hP]
    have h1 := (List.nodup_iff_count.1 h) a
    have h2 := List.count_pos_iff.2 (hp.2 hP)
    omega
  · rw [if_neg hP]
    exact List.count_eq_zero.2 (fun k => hP (hp.1 k))
/-- How often an edge stands in a set. -/
theorem set_ltO {n : Int} {xs : List Int} (gs : isSetP n xs) {i : Nat} : ∀ {j : Nat}, i < j → j < xs.length → eI xs i < eI xs j
  | 0, h, _ => by omega
  | j + 1, h, hj => by
    have h1 := (gs (j + 1) hj).2 (by omega)
    rw [Nat.add_sub_cancel] at h1
    by_cases e : i = j
    · rw [e]; exact h1
    · have := set_ltO gs (i := i) (j := j) (by omega) (by omega)
      omega
theorem incU_set {m : Nat} {xs c : List Int} {e : Nat} (gs : isSetP (m : Int) xs) (hc : c.length = m) (he : e < m) : eI (incU c xs xs.length) e = eI c e + (if (e : Int) ∈ xs then 1 else 0) := by
  have key : ∀ k, k ≤ xs.length → eI (incU c xs k) e = eI c e + (if (e : Int) ∈ xs.take k then 1 else 0) := by
    intro k
    induction k with
    | zero => intro _; simp [incU]
    | succ k ih =>
      intro hk
      have h1 := ih (by omega)
      have hko := gs k (by omega)
      show eI (incL (incU c xs k) (eI xs k).toNat) e = _
      unfold incL
      have hkr := hko.1
      rw [eI_set (by rw [incU_len, hc]; omega)]
      have htk : xs.take (k + 1) = xs.take k ++ [eI xs k] := by
        rw [List.take_add_one, List.getElem?_eq_getElem (by omega), eI_lt (by omega)]
        rfl
      by_cases hh : e = (eI xs k).toNat
      · rw [if_pos hh, ← hh, h1, htk]
        have hnot : ¬ (e : Int) ∈ xs.take k := by
          intro hm
          obtain ⟨i, hi, hie⟩ := List.mem_iff_getElem.1 hm
          rw [List.length_take] at hi
          rw [List.getElem_take] at hie
          have h3 := set_ltO gs (i := i) (j := k) (by omega) (by omega)
          rw [eI_lt (by omega), hie] at h3
          omega
        rw [if_neg hnot, if_pos (by rw [List.mem_append, List.mem_singleton]; right; omega)]
        omega
      · rw [if_neg hh, h1, htk]
        have : ((e : Int) ∈ xs.take k ++ [eI xs k]) ↔ (e : Int) ∈ xs.take k := by
          rw [List.mem_append, List.mem_singleton]
          constructor
          · rintro (h | h)
            · exact h
            · omega
          · exact Or.inl
        simp only [this]
  have h := key xs.length (Nat.le_refl _)
  rwa [List.take_length] at h

theorem dir_counts {Ls : List (List Int)} {ts : List Int} (hC : ∀ i, i < Ls.length → CycF N es (lI Ls i)) (ht : ∀ i, i < Ls.length → 0 ≤ eI ts i ∧ eI ts i ≤ 1) {e : Nat} (he : e < es.length) : ∀ i, i ≤ Ls.length →
    smU es Ls ts e i = ((dirU es Ls ts i).count (alT es e 0) : Int) - ((dirU es Ls ts i).count (alT es e 1) : Int) ∧ eI (dcU es.length Ls i) e = ((dirU es Ls ts i).count (alT es e 0) : Int) + ((dirU es Ls ts i).count (alT es e 1) : Int)
  | 0, _ => by
    refine ⟨by simp [smU, dirU], ?_⟩
    show eI (List.replicate es.length 0) e = _
    rw [eI_lt (by simpa using he)]
    simp [dirU]
  | i + 1, hi => by
    obtain ⟨h1, h2⟩ := dir_counts hC ht he i (by omega)
    have C := hC i (by omega)
    have hti := ht i (by omega)
    have c0 := count_iff (seqL_nodup C (eI ts i).toNat) (alT es e 0) (seqL_zero C (by omega) he)
    have c1 := count_iff (seqL_nodup C (eI ts i).toNat) (alT es e 1) (seqL_one C (by omega) he)
    have hd : decide ((eI ts i).toNat = 0) = decide (eI ts i = 0) := by
      by_cases h : eI ts i = 0
      · simp [h]
      · have : ¬ (eI ts i).toNat = 0 := by omega
        simp [h, this]
    rw [hd] at c0 c1
    show smU es Ls ts e i + _ = ((dirU es Ls ts i ++ seqL es (lI Ls i) (eI ts i).toNat).count (alT es e 0) : Int) - ((dirU es Ls ts i ++ seqL es (lI Ls i) (eI ts i).toNat).count (alT es e 1) : Int) ∧ eI (incU (dcU es.length Ls i) (lI Ls i) (lI Ls i).length) e = ((dirU es Ls ts i ++ seqL es (lI Ls i) (eI ts i).toNat).count (alT es e 0) : Int) + ((dirU es Ls ts i ++ seqL es (lI Ls i) (eI ts i).toNat).count (alT es e 1) : Int)
    rw [List.count_append, List.count_append, c0, c1, incU_set C.gs (dcU_len _ _ _) he, h1, h2]
    by_cases hm : (e : Int) ∈ lI Ls i
    · by_cases hf : fwB es (lI Ls i) e = decide (eI ts i = 0)
      · have hf2 : ¬ fwB es (lI Ls i) e = !decide (eI ts i = 0) := by rw [hf]; cases decide (eI ts i = 0) <;> simp
        rw [if_pos hm, if_pos hf, if_pos ⟨hm, hf⟩, if_neg (fun k => hf2 k.2), if_pos hm]
        omega
      · have hf2 : fwB es (lI Ls i) e = !decide (eI ts i = 0) := by
          cases h3 : fwB es (lI Ls i) e <;> cases h4 : decide (eI ts i = 0) <;> simp_all
        rw [if_pos hm, if_neg hf, if_neg (fun k => hf k.2), if_pos ⟨hm, hf2⟩, if_pos hm]
        omega
    · rw [if_neg hm, if_neg (fun k => hm k.1), if_neg (fun k => hm k.1), if_neg hm]
      omega

theorem dir_al {Ls : List (List Int)} {ts : List Int} (hC : ∀ i, i < Ls.length → CycF N es (lI Ls i)) : ∀ i, i ≤ Ls.length → ∀ d, d ∈ dirU es Ls ts i → ∃ f, f < es.length ∧ (d = alT es f 0 ∨ d = alT es f 1)
  | 0, _, d, h => by cases h
  | i + 1, hi, d, h => by
    rcases List.mem_append.1 (show d ∈ dirU es Ls ts i ++ seqL es (lI Ls i) (eI ts i).toNat from h) with h | h
    · exact dir_al hC i (by omega) d h
    · exact seqL_al (hC i (by omega)) _ h
/-- The sums are zero exactly if no directed edge is gone along twice. -/
theorem orient_iff {Ls : List (List Int)} {ts : List Int} (hC : ∀ i, i < Ls.length → CycF N es (lI Ls i)) (ht : ∀ i, i < Ls.length → 0 ≤ eI ts i ∧ eI ts i ≤ 1) (h2 : ∀ e, e < es.length → eI (dcU es.length Ls Ls.length) e = 2) : (∀ e, e < es.length → smU es Ls ts e Ls.length = 0) ↔ orientB es Ls ts = true := by
  unfold orientB
  rw [decide_eq_true_eq, List.nodup_iff_count]
  constructor
  · intro h d
    by_cases hd : d ∈ dirU es Ls ts Ls.length
    · obtain ⟨f, hf, hdf⟩ := dir_al hC _ (Nat.le_refl _) d hd
      obtain ⟨a, b⟩ := dir_counts hC ht hf Ls.length (Nat.le_refl _)
      have := h f hf
      have := h2 f hf
      rcases hdf with rfl | rfl <;> omega
    · rw [List.count_eq_zero.2 hd]
      omega
  · intro h e he
    obtain ⟨a, b⟩ := dir_counts hC ht he Ls.length (Nat.le_refl _)
    have := h (alT es e 0)
    have := h (alT es e 1)
    have := h2 e he
    omega
end

end Go.Proofs.Ytfdlhdgmbjdhbaa

/- The directions of a cycle in the model: l07Forward. -/
namespace Go.Proofs.Ytfdlhdgmbjdhbaa
open Go.RowKit Go.Lib

section
variable {N : Nat} {es : List (Int × Int)} {xs : List Int}
/-- The directions that are known after j steps. -/
def fwJ (es : List (Int × Int)) (xs : List Int) (j k : Nat) : Bool := decide (∃ i, i ≤ j ∧ wkS es xs i = alT es (eX xs k) 0)
def fwL (es : List (Int × Int)) (xs : List Int) (j : Nat) : List Bool := (List.range xs.length).map (fwJ es xs j)
/-- The directions of a cycle's edges. -/
def fwR (es : List (Int × Int)) (xs : List Int) : List Bool := (List.range xs.length).map fun k => fwB es xs (eX xs k)
theorem fwL_len (es : List (Int × Int)) (xs : List Int) (j : Nat) : (fwL es xs j).length = xs.length := by simp [fwL]
theorem fwR_len (es : List (Int × Int)) (xs : List Int) : (fwR es xs).length = xs.length := by simp [fwR]
theorem fwL_at {j k : Nat} (hk : k < xs.length) : eL (fwL es xs j) k = fwJ es xs j k := by
  rw [eL_lt (by rw [fwL_len]; exact hk)]
  simp [fwL]
theorem fwR_at {k : Nat} (hk : k < xs.length) : eL (fwR es xs) k = fwB es xs (eX xs k) := by
  rw [eL_lt (by rw [fwR_len]; exact hk)]
  simp [fwR]
theorem boolO_ext {n : Nat} {xs ys : List Bool} (h1 : xs.length = n) (h2 : ys.length = n) (h : ∀ x, x < n → eL xs x = eL ys x) : xs = ys := by
  refine List.ext_getElem (by rw [h1, h2]) fun i hi hj => ?_
  have := h i (by omega)
  rwa [eL_lt hi, eL_lt hj] at this
theorem eX_inj (gs : isSetP es.length xs) {i k : Nat} (hi : i < xs.length) (hk : k < xs.length) (h : eX xs i = eX xs k) : i = k := by
  have h1 := (eX_at gs hi).1
  have h2 := (eX_at gs hk).1
  rcases Nat.lt_trichotomy i k with c | c | c
  · have := set_ltO gs c hk; omega
  · exact c
  · have := set_ltO gs c hi; omega
theorem al_fst (es : List (Int × Int)) (f t : Nat) : (alT es f t).1 = (f : Int) := by unfold alT; split <;> rfl
theorem fwL_start (C : CycF N es xs) : fwL es xs 0 = (List.replicate xs.length false).set 0 true := by
  refine boolO_ext (n := xs.length) (fwL_len _ _ _) (by simp) fun k hk => ?_
  rw [fwL_at hk, eL_set (by simpa using C.pos)]
  unfold fwJ
  by_cases h : k = 0
  · rw [if_pos h, h]
    exact decide_eq_true ⟨0, Nat.le_refl _, stW_zero _ _ _⟩
  · rw [if_neg h, eL_lt (by simpa using hk), List.getElem_replicate]
    refine decide_eq_false ?_
    rintro ⟨i, hi, e⟩
    obtain rfl : i = 0 := by omega
    have h2 := congrArg Prod.fst e
    rw [al_fst] at h2
    have h3 : (wkS es xs 0).1 = (eX xs 0 : Int) := rfl
    exact h (eX_inj C.gs hk C.pos (by omega))
theorem fwL_end (_ : CycF N es xs) {j : Nat} (hj : j + 1 = perS es xs) : fwL es xs j = fwR es xs := by
  refine boolO_ext (n := xs.length) (fwL_len _ _ _) (fwR_len _ _) fun k hk => ?_
  rw [fwL_at hk, fwR_at hk]
  unfold fwJ fwB
  refine decide_eq_decide.2 ⟨?_, ?_⟩
  · rintro ⟨i, hi, e⟩; exact ⟨i, by omega, e⟩
  · rintro ⟨i, hi, e⟩; exact ⟨i, by omega, e⟩
/-- Where the walk is, and where it goes on. -/
theorem wk_next (C : CycF N es xs) {j : Nat} (hj : j < perS es xs) : ∃ kt, kt < xs.length ∧ eX xs kt = (wyS es (nxS es xs) (eX xs 0) (j + 1)).1 ∧ onE es (wyS es (nxS es xs) (eX xs 0) j).2 (eX xs kt) = true ∧ (∀ k now, k < xs.length → eX xs now = (wyS es (nxS es xs) (eX xs 0) j).1 → now < xs.length → k ≠ now → k ≠ kt → onE es (wyS es (nxS es xs) (eX xs 0) j).2 (eX xs k) = false) ∧ (∀ now, eX xs now = (wyS es (nxS es xs) (eX xs 0) j).1 → now ≠ kt) ∧ (kt = 0 ↔ j + 1 = perS es xs) := by
  have hv := wyS_ok C.T C.ok j
  obtain ⟨q1, q2, q3⟩ := C.T.nx_ok _ _ hv.ok hv.on
  have hin := (inB_iff.1 q1).2
  obtain ⟨kt, hkt, hke⟩ := List.mem_iff_getElem.1 hin
  have he : eX xs kt = (wyS es (nxS es xs) (eX xs 0) (j + 1)).1 := by
    have h1 := (eX_at C.gs hkt).1
    rw [eI_lt hkt, hke] at h1
    have h2 : (wyS es (nxS es xs) (eX xs 0) (j + 1)).1 = nxS es xs (wyS es (nxS es xs) (eX xs 0) j).2 (wyS es (nxS es xs) (eX xs 0) j).1 := rfl
    omega
  have he' : eX xs kt = nxS es xs (wyS es (nxS es xs) (eX xs 0) j).2 (wyS es (nxS es xs) (eX xs 0) j).1 := he
  refine ⟨kt, hkt, he, by rw [he']; exact q2, fun k now hk hn hnl hkn hkk => ?_, fun now hn e => ?_, ?_⟩
  · cases ho : onE es (wyS es (nxS es xs) (eX xs 0) j).2 (eX xs k)
    · rfl
    · rcases C.T.one _ _ (eX xs k) hv.ok (eX_in C.gs hk) hv.on ho with h | h
      · exact absurd (eX_inj C.gs hk hnl (by rw [h, hn])) hkn
      · exact absurd (eX_inj C.gs hk hkt (by rw [h, he'])) hkk
  · rw [e, he'] at hn
    exact q3 hn
  · constructor
    · intro h0
      rw [h0] at he
      rcases Nat.lt_or_ge (j + 1) (perS es xs) with h | h
      · exact absurd he.symm (C.kmin (j + 1) (by omega) h)
      · omega
    · intro h1
      rw [h1, C.kend] at he
      exact eX_inj C.gs hkt C.pos he
theorem fwL_next (C : CycF N es xs) {j kt : Nat} (hj : j + 1 < perS es xs) (hkt : kt < xs.length) (he : eX xs kt = (wyS es (nxS es xs) (eX xs 0) (j + 1)).1) {b : Bool} (hb : b = decide (eA es (eX xs kt) = (wyS es (nxS es xs) (eX xs 0) j).2)) : fwL es xs (j + 1) = (fwL es xs j).set kt b := by
  refine boolO_ext (n := xs.length) (fwL_len _ _ _) (by rw [List.length_set, fwL_len]) fun k hk => ?_
  rw [fwL_at hk, eL_set (by rw [fwL_len]; exact hkt), fwL_at hk]
  by_cases h : k = kt
  · subst h
    rw [if_pos rfl, hb]
    unfold fwJ
    have hl := (eX_at C.gs hk).2
    have hfrom : (wkS es xs (j + 1)).2.1 = (wyS es (nxS es xs) (eX xs 0) j).2 := by
      show othE es (wyStep es (nxS es xs) (wyS es (nxS es xs) (eX xs 0) j)).2 (wyStep es (nxS es xs) (wyS es (nxS es xs) (eX xs 0) j)).1 = _
      unfold wyStep
      dsimp only
      rw [oth_oth]
    refine decide_eq_decide.2 ⟨?_, ?_⟩
    · rintro ⟨i, hi, e⟩
      have h2 := congrArg Prod.fst e
      rw [al_fst, wk_fst, he] at h2
      have hij : i = j + 1 := by
        have := wk_inj C (i := i) (j := j + 1) (by omega) hj (by rw [wk_fst, wk_fst]; omega)
        exact this
      subst hij
      rw [← hfrom, e]
      rfl
    · intro h2
      refine ⟨j + 1, Nat.le_refl _, ?_⟩
      rcases wk_al C (j + 1) with e | e
      · rw [← he] at e; exact e
      · rw [← he] at e
        rw [e] at hfrom
        have h3 : eB es (eX xs k) = (wyS es (nxS es xs) (eX xs 0) j).2 := hfrom
        have h4 := (C.g.1.2 _ hl).2.2
        exact absurd (h2.trans h3.symm) h4.2.2
  · rw [if_neg h]
    unfold fwJ
    refine decide_eq_decide.2 ⟨?_, ?_⟩
    · rintro ⟨i, hi, e⟩
      rcases Nat.lt_or_ge i (j + 1) with h2 | h2
      · exact ⟨i, by omega, e⟩
      · obtain rfl : i = j + 1 := by omega
        have h3 := congrArg Prod.fst e
        rw [al_fst, wk_fst, ← he] at h3
        exact absurd (eX_inj C.gs hk hkt (by omega)) h
    · rintro ⟨i, hi, e⟩
      exact ⟨i, by omega, e⟩
/-- Which step of the walk an edge of the set is. -/
def posW (es : List (Int × Int)) (xs : List Int) (k : Nat) : Nat := ((List.range (perS es xs)).find? fun j => (wyS es (nxS es xs) (eX xs 0) j).1 == eX xs k).getD 0
theorem posW_at (C : CycF N es xs) {j k : Nat} (hj : j < perS es xs) (hk : eX xs k = (wyS es (nxS es xs) (eX xs 0) j).1) : posW es xs k = j := by
  unfold posW
  cases hf : (List.range (perS es xs)).find? fun j => (wyS es (nxS es xs) (eX xs 0) j).1 == eX xs k with
  | none =>
    have := List.find?_eq_none.1 hf j (List.mem_range.2 hj)
    simp at this
    exact absurd hk.symm this
  | some x =>
    have hp := List.find?_some hf
    have hm := List.mem_range.1 (List.mem_of_find?_eq_some hf)
    simp at hp
    show x = j
    exact wk_inj C hm hj (by rw [wk_fst, wk_fst]; omega)
end

theorem infoBoolO : (Try.prog.info? 4).map (fun i => (i.zero, i.size, i.bytes)) = some (some (.bool false), 1, 1) := by kernel_rfl
set_option maxRecDepth 100000 in
set_option maxHeartbeats 16000000 in
theorem sForward_any (N b off n c sb so l f : Nat) (es : List (Int × Int)) (xs : List Int) (w : World) (hn : es.length = n) (hr : ReadsE w b off es) (C : CycF N es xs) (hl : xs.length = l) (hrd : ReadsI w sb so xs) :
    Calls Try.prog 57 #[.agg #[.int .i64 N, .slice (some ⟨b, off, none⟩) n c], .slice (some ⟨sb, so, none⟩) l f] w fun e w' => ∃ gb, e = .returned (.slice (some ⟨gb, 0, none⟩) l l) ∧ w.heap.size ≤ gb ∧ OwnB w' gb l (fwR es xs) ∧ Below w.heap.size w w' := by
  have hn30 : n ≤ 30 := by have := isG_len C.g; rw [hn] at this; exact this
  have hN20 : N ≤ 20 := by have := C.g.1.1.2.1; omega
  have hl30 : l ≤ 30 := by rw [← hl]; have h1 := set_len C.gs; have h2 := isG_len C.g; omega
  have hl0 : 0 < l := by rw [← hl]; exact C.pos
  have hl0' : (0 : Int) < (l : Int) := by omega
  obtain ⟨i0, hi, hz0, hz1, hz2⟩ := info_parts infoBoolO
  have Hi := hid hi
  have HC := hid C
  have Hn := hid hn
  have Hr := hid hr
  have Hl := hid hl
  have Hrd := hid hrd
  obtain ⟨hE1, hE2⟩ := eX_at C.gs C.pos
  obtain ⟨E, hE⟩ : ∃ E, eX xs 0 = E := ⟨_, rfl⟩
  rw [hE] at hE1 hE2
  have hEn : E < n := by rw [hn] at hE2; exact hE2
  have hEn' : (E : Int) < (n : Int) := by omega
  have hx0 := hrd 0 C.pos
  rw [hE1, Nat.add_zero] at hx0
  have hsb : sb < w.heap.size := World.block_lt_of_cell? w _ hx0
  have hy0 := (hr E (by omega)).2
  obtain ⟨Y, hY⟩ : ∃ Y, eB es E = Y := ⟨_, rfl⟩
  rw [hY] at hy0
  have hbl : b < w.heap.size := World.block_lt_of_cell? w _ hy0
  have HEY := hid (show (wyS es (nxS es xs) (eX xs 0) 0).2 = Y ∧ eX xs 0 = (wyS es (nxS es xs) (eX xs 0) 0).1 from ⟨by rw [← hY, ← hE]; rfl, rfl⟩)
  obtain ⟨K, hK⟩ : ∃ K, perS es xs = K := ⟨_, rfl⟩
  have HK := hid hK
  have hK0 : 0 < K := by rw [← hK]; exact C.kpos
  clear hn hr C hl hrd hi hE hE1 hE2 hY hK
  go_enter Try.func57, Try.ntmps57
  obtain ⟨W0, hW0⟩ : ∃ W0, W0 = w.alloc (.cells #[.int .i64 (N : Int), .slice (some ⟨b, off, none⟩) n c] 28) := ⟨_, rfl⟩
  have HB0 := hid (show Below w.heap.size w W0 by rw [hW0]; exact on_alloc _ _)
  have HX0 := hid (show Box W0 w.heap.size N (some ⟨b, off, none⟩) n c by rw [hW0]; exact Box.new _ _ _ _ _ _)
  have HZ0 := hid (show W0.heap.size = w.heap.size + 1 by rw [hW0]; simp)
  go_wp2_with (at_make; rw [← hW0]; refine wpList_make_full _ rfl _ _ 81 rfl W0.heap.size 4 i0 (.bool false) 1 Try.underlying81 Hi.out hz0 hz1 _ _ _ _ l rfl rfl rfl rfl (by rw [hz2]; omega) (by unfold maxLen; omega) (Nat.le_refl _) ?_; intro w1 hown hgrow; have Ho := hid (OwnB.made hown); have Hb := hid ((Below.refl W0.heap.size W0).grown hgrow (Nat.le_refl _) (fun k e => by cases e)); have hcm := Ho.out.cell (i := 0) (by simpa using hl0); have hfm := Ho.out.free 0; have hgml := Ho.out.lt; clear hown hgrow hW0)
  obtain ⟨gb, hgb⟩ : ∃ gb, W0.heap.size = gb := ⟨_, rfl⟩
  rw [hgb] at Ho Hb hcm hfm hgml ⊢
  have hgw1 : w.heap.size ≤ gb := by rw [← hgb, HZ0.out]; omega
  have hgw2 : w.heap.size ≠ gb := by rw [← hgb, HZ0.out]; omega
  obtain ⟨w2, hw2⟩ : ∃ w2, w2 = w1.setCell ⟨gb, 0, none⟩ (.bool true) := ⟨_, rfl⟩
  have HO2 := hid (show OwnB w2 gb l (fwL es xs 0) by rw [hw2, fwL_start HC.out, Hl.out]; exact Ho.out.set (by simpa using hl0) true)
  have HB1 := hid (show Below w.heap.size w w1 from bfrom HB0.out (by rw [hgb]; exact Hb.out))
  have HB2 := hid (show Below w.heap.size w w2 by rw [hw2]; exact HB1.out.setCell (p := ⟨gb, 0, none⟩) hgw1 _)
  have HX2 := hid (show Box w2 w.heap.size N (some ⟨b, off, none⟩) n c by
    rw [hw2]
    have h := HX0.out.on (w' := w1) (by rw [hgb]; exact Hb.out)
    exact h.same (heap_setCell_other w1 ⟨gb, 0, none⟩ w.heap.size _ hgw2))
  rw [← hw2]
  clear hw2 hcm hfm hgml Ho Hb HB1 hgb
  have hx := HX2.out.2
  have hxl := HX2.out.lt
  have hcE := (HB2.out.cell (p := ⟨sb, so, none⟩) hsb).trans hx0
  have hcY := (HB2.out.cell (p := ⟨b, off + E * 2 + 1, none⟩) hbl).trans hy0
  have hsb2 : sb < w2.heap.size := Nat.lt_of_lt_of_le hsb HB2.out.size
  have hbl2 : b < w2.heap.size := Nat.lt_of_lt_of_le hbl HB2.out.size
  clear hx0 hy0
  go_quiet (fail)
  obtain ⟨w3, hw3⟩ : ∃ w3, w3 = w2.drewN nq := ⟨_, rfl⟩
  have HO3 := hid (show OwnB w3 gb l (fwL es xs 0) by rw [hw3]; exact HO2.out.keep rfl)
  have HB3 := hid (show Below w.heap.size w w3 by rw [hw3]; exact bdn.mpr HB2.out)
  have HX3 := hid (show Box w3 w.heap.size N (some ⟨b, off, none⟩) n c by rw [hw3]; exact HX2.out.same rfl)
  rw [← hw3]
  clear hw3 hx hxl hcE hcY hsb2 hbl2 HO2 HB2 HX2
  go_wp2_with fail
  go_loopw [6, 7] (fun v nw wr => ∃ (j now : Nat) (V : Int), j < K ∧ now < l ∧ v = .int .i64 V ∧ nw = .int .i64 now ∧ Hid ((wyS es (nxS es xs) (eX xs 0) j).2 = V ∧ eX xs now = (wyS es (nxS es xs) (eX xs 0) j).1) ∧ Hid (OwnB wr gb l (fwL es xs j)) ∧ Hid (Below w.heap.size w wr) ∧ Hid (Box wr w.heap.size N (some ⟨b, off, none⟩) n c)) (fun _ nw _ => K - posW es xs (intOf nw).toNat)
  case atStart => exact ⟨0, 0, Y, hK0, hl0, rfl, rfl, HEY, HO3, HB3, HX3⟩
  case round =>
    clear HO3 HB3 HX3 HEY
    obtain ⟨j, now, V, hj, hnow, rfl, rfl, hV, hO, hB, hX⟩ := hrel
    obtain ⟨wo, rfl⟩ : ∃ wo : World, wo = wr := ⟨_, rfl⟩
    have hjj : j < perS es xs := by rw [HK.out]; exact hj
    have hwk := wk_next HC.out hjj
    rw [hV.out.1] at hwk
    obtain ⟨kt, hkt, hk1, hk2, hk3, hk4, hk5⟩ := hwk
    have hVr := wyS_rng HC.out.T (wyS_ok HC.out.T HC.out.ok j)
    rw [hV.out.1] at hVr
    have hktl : kt < l := by rw [← Hl.out]; exact hkt
    have HK1 := hid hk1
    have HK2 := hid hk2
    have HK3 := hid hk3
    have HK4 := hid (hk4 now hV.out.2)
    have HK5 := hid hk5
    clear hk1 hk2 hk3 hk4 hk5 hkt hjj
    go_wp2_with fail
    go_loopw [6, 7, 8] (fun v nw u wr => ∃ k : Nat, k ≤ kt ∧ v = .int .i64 V ∧ nw = .int .i64 now ∧ u = .int .i64 k ∧ Hid (OwnB wr gb l (fwL es xs j)) ∧ Hid (Below w.heap.size w wr) ∧ Hid (Box wr w.heap.size N (some ⟨b, off, none⟩) n c)) (fun _ _ u _ => l - (intOf u).toNat)
    case atStart => exact ⟨0, Nat.zero_le _, rfl, rfl, rfl, hO, hB, hX⟩
    case round =>
      clear hO hB hX
      obtain ⟨k, hk, rfl, rfl, rfl, hO, hB, hX⟩ := hrel
      obtain ⟨wi, rfl⟩ : ∃ wi : World, wi = wr := ⟨_, rfl⟩
      have hkl : k < l := by omega
      have hkl' : (k : Int) < (l : Int) := by omega
      obtain ⟨hF1, hF2⟩ := eX_at HC.out.gs (show k < xs.length by rw [Hl.out]; exact hkl)
      obtain ⟨F, hF⟩ : ∃ F, eX xs k = F := ⟨_, rfl⟩
      rw [hF] at hF1 hF2
      have hFn : F < n := by rw [Hn.out] at hF2; exact hF2
      have hFn' : (F : Int) < (n : Int) := by omega
      have hok := HC.out.g.1.2 F hF2
      obtain ⟨X, hX1⟩ : ∃ X, eA es F = X := ⟨_, rfl⟩
      obtain ⟨Y1, hY1⟩ : ∃ Y, eB es F = Y := ⟨_, rfl⟩
      unfold okEdge at hok
      rw [hX1, hY1] at hok
      have hce := (Hrd.out.on hB.out) k (by rw [Hl.out]; exact hkl)
      rw [hF1] at hce
      have hee := (Hr.out.on hB.out) F hF2
      rw [hX1, hY1] at hee
      have hcx := hee.1
      have hcy := hee.2
      have hx := hX.out.2
      have hxl := hX.out.lt
      have hsb2 : sb < wi.heap.size := Nat.lt_of_lt_of_le hsb hB.out.size
      have hbl2 : b < wi.heap.size := Nat.lt_of_lt_of_le hbl hB.out.size
      have HF := hid hF
      have HXY := hid (And.intro hX1 hY1)
      have hgbl := hO.out.lt
      obtain ⟨w6, hw6⟩ : ∃ w6, w6 = (wi.alloc (.cells #[.int .i64 X, .int .i64 Y1] 57)).drew := ⟨_, rfl⟩
      have HW6 := hid (show OwnB w6 gb l (fwL es xs j) ∧ Below w.heap.size w w6 ∧ Box w6 w.heap.size N (some ⟨b, off, none⟩) n c from by
        rw [hw6]
        exact ⟨(hO.out.alloc _).keep rfl, (bfrom hB.out (on_alloc _ _)).drew, (hX.out.on (on_alloc _ _)).same rfl⟩)
      have HE6 := hid (show w6.heap[wi.heap.size]? = some (.cells #[.int .i64 X, .int .i64 Y1] 57 (0, 0)) by rw [hw6]; exact heap_alloc_new wi _)
      have he0 : w6.cell? ⟨wi.heap.size, 0, none⟩ = some (.int .i64 X) := cell_of_row w6 _ 0 _ _ _ HE6.out
      have he1 : w6.cell? ⟨wi.heap.size, 1, none⟩ = some (.int .i64 Y1) := cell_of_row w6 _ 1 _ _ _ HE6.out
      have hel : wi.heap.size < w6.heap.size := (Array.getElem?_eq_some_iff.1 HE6.out).1
      have HON := hid (show X ≠ Y1 from hok.2.2.2.2 )
      clear hF hF1 hF2 hX1 hY1 hee hO hB hX
      go_wp2_with fail
      go_region_held3 (fun w' => w'.cell? ⟨w.heap.size, 1, none⟩ = some (.slice (some ⟨b, off, none⟩) n c) ∧ w'.cell? ⟨sb, so + k, none⟩ = some (.int .i64 (F : Int)) ∧ w'.cell? ⟨b, off + F * 2, none⟩ = some (.int .i64 X) ∧ w'.cell? ⟨b, off + F * 2 + 1, none⟩ = some (.int .i64 Y1)) (go_keep) (fail)
      rw [← hw6]
      clear hw6 hcx hcy hce hx hxl hsb2 hbl2
      have hne : kt ≠ now := fun e => HK4.out e.symm
      by_cases hkn : k = now
      · have t1 : ((k : Int) != (now : Int)) = false := by simp; omega
        have HKL := hid (show k < kt ∧ k < l ∧ kt < l by omega)
        clear hkn
        go_wp2
        go_roundw
        case rel => exact ⟨k + 1, by have := HKL.out; omega, rfl, rfl, by go_num, hid HW6.out.1, hid HW6.out.2.1, hid HW6.out.2.2⟩
        case measure => have := HKL.out; simp [intOf]; omega
      · have t1 : ((k : Int) != (now : Int)) = true := by simp; omega
        by_cases hkk : k = kt
        · have hon := HK2.out
          rw [← hkk, HF.out] at hon
          have hVV : V = X ∨ V = Y1 := by
            have h := on_ends hon
            rw [HXY.out.1, HXY.out.2] at h
            exact h
          have HVV := hid hVV
          have hK1 := HK1.out
          rw [← hkk, HF.out] at hK1
          have HK1' := hid hK1
          have HKK := hid hkk
          have h0k := HK5.out
          rw [← hkk] at h0k
          obtain ⟨tX, htX⟩ : ∃ tX, (X == V) = tX := ⟨_, rfl⟩
          have hor : tX = true ∨ (Y1 == V) = true := by
            rcases hVV with h | h
            · left; rw [← htX]; simp [h]
            · right; simp [h]
          have HTX := hid htX
          have HHr := hid (And.intro hok.1 (And.intro hok.2.1 (And.intro hok.2.2.1 hok.2.2.2.1)))
          clear hon hVV hK1 hkn
          by_cases hk0 : k = 0
          · have hjK : j + 1 = perS es xs := h0k.1 hk0
            have HEnd := hid (fwL_end HC.out hjK)
            have t4 : ((k : Int) == 0) = true := by simp; omega
            clear hkk hjK h0k hk0
            cases tX
            · have t3 : (Y1 == V) = true := by rcases hor with h | h; cases h; exact h
              clear hor
              go_wp2
              go_ret
              exact ⟨gb, rfl, hgw1, by rw [← HEnd.out]; exact HW6.out.1, HW6.out.2.1⟩
            · clear hor
              go_wp2
              go_ret
              exact ⟨gb, rfl, hgw1, by rw [← HEnd.out]; exact HW6.out.1, HW6.out.2.1⟩
          · have t4 : ((k : Int) == 0) = false := by simp; omega
            have hj1 : j + 1 < perS es xs := by
              have h1 : ¬ j + 1 = perS es xs := fun h => hk0 (h0k.2 h)
              rw [HK.out] at h1 ⊢
              omega
            have HJ1 := hid hj1
            obtain ⟨V', hV'⟩ : ∃ V', X + Y1 - V = V' := ⟨_, rfl⟩
            have hw1 : IntKind.i64.wrap (X + Y1) = X + Y1 := IntWalk.i64_in _ (by have := HHr.out; omega)
            have hw2 : IntKind.i64.wrap (X + Y1 - V) = V' := by rw [← hV']; exact IntWalk.i64_in _ (by have := HHr.out; have := HVV.out; omega)
            have HV' := hid (show (wyS es (nxS es xs) (eX xs 0) (j + 1)).2 = V' ∧ eX xs k = (wyS es (nxS es xs) (eX xs 0) (j + 1)).1 from ⟨by
              rw [← hV', ← hV.out.1, ← HXY.out.1, ← HXY.out.2, HK1'.out]
              rfl, by rw [HF.out, HK1'.out]⟩)
            have hfk := HW6.out.1.free k
            have hck := HW6.out.1.cell (i := k) (by rw [fwL_len, Hl.out]; exact hkl)
            have hgl6 := HW6.out.1.lt
            have HNx := hid (fun (bb : Bool) (hb : bb = tX) => (show fwL es xs (j + 1) = (fwL es xs j).set k bb from fwL_next HC.out HJ1.out (by rw [Hl.out]; exact hkl) (by rw [HF.out, HK1'.out]) (by
              rw [hb, ← HTX.out, HF.out, HXY.out.1, hV.out.1]
              rfl)))
            have HFin := hid (show ∀ bb : Bool, bb = tX → OwnB (w6.setCell ⟨gb, k, none⟩ (.bool bb)) gb l (fwL es xs (j + 1)) ∧ Below w.heap.size w (w6.setCell ⟨gb, k, none⟩ (.bool bb)) ∧ Box (w6.setCell ⟨gb, k, none⟩ (.bool bb)) w.heap.size N (some ⟨b, off, none⟩) n c from fun bb hb => ⟨by rw [HNx.out bb hb]; exact HW6.out.1.set (by rw [fwL_len, Hl.out]; exact hkl) bb, HW6.out.2.1.setCell (p := ⟨gb, k, none⟩) hgw1 _, HW6.out.2.2.same (heap_setCell_other w6 ⟨gb, k, none⟩ w.heap.size _ hgw2)⟩)
            have HPos := hid (show posW es xs k = j + 1 ∧ posW es xs now = j from ⟨posW_at HC.out HJ1.out HV'.out.2, posW_at HC.out (by have := HJ1.out; omega) hV.out.2⟩)
            have HJK := hid (show j + 1 < K by rw [← HK.out]; exact HJ1.out)
            clear hkk hj1 h0k hV' hk0
            cases tX
            · have t3 : (Y1 == V) = true := by rcases hor with h | h; cases h; exact h
              have HF1 := hid (HFin.out false rfl)
              clear hor HFin HNx
              go_wp2
              go_roundw
              case rel => exact ⟨j + 1, k, V', HJK.out, hkl, by first | rfl | go_num, by first | rfl | go_num, HV', hid HF1.out.1, hid HF1.out.2.1, hid HF1.out.2.2⟩
              case measure =>
                show K - posW es xs (intOf (.int .i64 (k : Int))).toNat < K - posW es xs (intOf (.int .i64 (now : Int))).toNat
                simp only [intOf, Int.toNat_natCast]
                rw [HPos.out.1, HPos.out.2]
                have := HJK.out
                omega
            · have HF1 := hid (HFin.out true rfl)
              clear hor HFin HNx
              go_wp2
              go_roundw
              case rel => exact ⟨j + 1, k, V', HJK.out, hkl, by first | rfl | go_num, by first | rfl | go_num, HV', hid HF1.out.1, hid HF1.out.2.1, hid HF1.out.2.2⟩
              case measure =>
                show K - posW es xs (intOf (.int .i64 (k : Int))).toNat < K - posW es xs (intOf (.int .i64 (now : Int))).toNat
                simp only [intOf, Int.toNat_natCast]
                rw [HPos.out.1, HPos.out.2]
                have := HJK.out
                omega
        · have hno := HK3.out k now (by rw [Hl.out]; exact hkl) hV.out.2 (by rw [Hl.out]; exact hnow) hkn hkk
          rw [HF.out] at hno
          unfold onE at hno
          rw [HXY.out.1, HXY.out.2] at hno
          have t2 : (X == V) = false := by cases h : (X == V) <;> simp_all
          have t3 : (Y1 == V) = false := by cases h : (Y1 == V) <;> simp_all
          have HKL := hid (show k < kt ∧ k < l ∧ kt < l by omega)
          clear hno hkn hkk
          go_wp2
          go_roundw
          case rel => exact ⟨k + 1, by have := HKL.out; omega, rfl, rfl, by go_num, hid HW6.out.1, hid HW6.out.2.1, hid HW6.out.2.2⟩
          case measure => have := HKL.out; simp [intOf]; omega

end Go.Proofs.Ytfdlhdgmbjdhbaa

/- Orientations of double covers in the program: areOriented. -/
namespace Go.Proofs.Ytfdlhdgmbjdhbaa
open Go.RowKit Go.Lib

attribute [local go_sem] Oper.semAt_some

theorem MapD.sameO {w w' : World} {b n : Nat} {S : List (Int × Int × Int)} (h : MapD w b n S) (hk : w'.heap[b]? = w.heap[b]?) : MapD w' b n S := by
  obtain ⟨D, ⟨es, clock, hb, F, hs, hD⟩, h2, h3⟩ := h
  exact ⟨D, ⟨es, clock, hk.trans hb, F, hs, hD⟩, h2, h3⟩
theorem leaves_collsC {F : Fence} {n : Nat} {fn : Func} {tmps : Array Value} {R : Ending → World → Prop} {v : Value} :
    ∀ (Ds : List Nat) (w : World), (∀ w', (∀ k, k ∉ Ds → w'.heap[k]? = w.heap[k]?) → (results fn tmps).run Try.prog w' = .ok v w') → Ds.Nodup → (∀ D, D ∈ Ds → w.heap[D]? = some (.deferred (some []))) → (∀ w', w'.os = w.os → w'.tape = w.tape → w'.output = w.output → w'.heap.size = w.heap.size → (∀ k, k ∉ Ds → w'.heap[k]? = w.heap[k]?) → R (.returned v) w') →
    LeavesInM F n Try.prog fn tmps R (colls Ds) .returning w
  | [], w, hv, _, _, hR => ⟨v, hv w (fun _ _ => rfl), hR w rfl rfl rfl rfl (fun _ _ => rfl)⟩
  | D :: Ds, w, hv, hn, hD, hR => by
    have hK := hD D (by simp)
    obtain ⟨hn1, hn2⟩ := List.nodup_cons.1 hn
    refine ⟨by simp, .inl ⟨D, _, rfl, run_takeDeferred hK, ?_⟩⟩
    have hput : ∀ k, k ≠ D → (w.putObj D (.deferred none)).heap[k]? = w.heap[k]? := fun k hk => World.putObj_heap_other hk
    refine leaves_collsC Ds _ (fun w' h => hv w' (fun k hk => (h k (fun hin => hk (by simp [hin]))).trans (hput k (fun e => hk (by simp [e]))))) hn2 (fun D' h' => ?_) (fun w' h1 h2 h3 h4 h5 => ?_)
    · have hne : D' ≠ D := fun e => hn1 (e ▸ h')
      exact (hput D' hne).trans (hD D' (by simp [h']))
    · refine hR w' (by rw [h1]; rfl) (by rw [h2]; rfl) (by rw [h3]; rfl) (by rw [h4]; simp [World.putObj]) (fun k hk => ?_)
      exact (h5 k (fun hin => hk (by simp [hin]))).trans (hput k (fun e => hk (by simp [e])))

/-- A region outside of rounds, walked by the laws for regions in which loads are held, in a function that is walked as one that may be handed a loop's rounds. -/
theorem region_held_wide {n : Nat} {P : Program} {ops : Array Oper} {Q : Exit → Act → World → Prop} {S : World → Prop} {id : Nat} {a : Act} {w : World} (hm : P.follows .mixedOrders = true) (h : wpAnyH P .any ops (onlyN (Q .normal)) S ops.size (Array.replicate ops.size false) a w.drew) : (Code.region id ops true).wpIn Fence.wide n P Q a w :=
  wpIn_region_any hm (any_wideH (fun _ _ h => h) _ _ _ _ (wpAny_of_held _ _ _ _ h))

set_option maxHeartbeats 1000000 in
/-- Backward along a cycle. -/
theorem next_back {N b off n c m f Bg Bs e : Nat} {ps : Option Addr} {es : List (Int × Int)} {xs : List Int} (w : World) (hn : es.length = n) (hr : ReadsE w b off es) (g : IsG N es) (hx : xs.length = m) (hm : m ≤ 1048576) (hrx : SeesI w ps xs)
    (hG : Box w Bg N (some ⟨b, off, none⟩) n c) (hS : w.cell? ⟨Bs, 0, none⟩ = some (.slice ps m f)) (T : TwoG N es (inB es xs) (nxW es (inB es xs))) (he : inB es xs e = true) (j : Nat) :
    Calls Try.prog 124 (#[dirV (revD (stW es (nxW es (inB es xs)) e (j + 1))).1 (revD (stW es (nxW es (inB es xs)) e (j + 1))).2.1 (revD (stW es (nxW es (inB es xs)) e (j + 1))).2.2] ++ #[.pointer (some ⟨Bg, 0, none⟩), .pointer (some ⟨Bs, 0, none⟩)]) w
      fun r w' => r = .returned (dirV (revD (stW es (nxW es (inB es xs)) e j)).1 (revD (stW es (nxW es (inB es xs)) e j)).2.1 (revD (stW es (nxW es (inB es xs)) e j)).2.2) ∧ Below w.heap.size w w' := by
  have hv := wyS_ok T he j
  have hvr := wyS_rng T hv
  have hvk := hv.ok
  have hvo := hv.on
  clear hv
  have hlt := T.lt _ hvk
  have hor := oth_in' g hlt hvo
  obtain ⟨q1, q2, q3⟩ := T.nx_ok _ _ hvk hvo
  have hone := fun y hy1 hy2 => T.one _ _ y hvk hy1 hvo hy2
  have hyr := oth_in' g (T.lt _ q1) q2
  have hstep : stW es (nxW es (inB es xs)) e (j + 1) = (((nxW es (inB es xs) (wyS es (nxW es (inB es xs)) e j).2 (wyS es (nxW es (inB es xs)) e j).1 : Nat) : Int), (wyS es (nxW es (inB es xs)) e j).2, othE es (wyS es (nxW es (inB es xs)) e j).2 (nxW es (inB es xs) (wyS es (nxW es (inB es xs)) e j).2 (wyS es (nxW es (inB es xs)) e j).1)) := by
    unfold stW
    show (((wyStep es (nxW es (inB es xs)) (wyS es (nxW es (inB es xs)) e j)).1 : Int), othE es (wyStep es (nxW es (inB es xs)) (wyS es (nxW es (inB es xs)) e j)).2 (wyStep es (nxW es (inB es xs)) (wyS es (nxW es (inB es xs)) e j)).1, (wyStep es (nxW es (inB es xs)) (wyS es (nxW es (inB es xs)) e j)).2) = _
    unfold wyStep
    dsimp only
    rw [oth_oth]
  rw [hstep]
  unfold stW revD
  dsimp only
  obtain ⟨E, hE⟩ : ∃ E, (wyS es (nxW es (inB es xs)) e j).1 = E := ⟨_, rfl⟩
  rw [hE] at hvk hvo hlt hor q1 q2 q3 hone hyr ⊢
  obtain ⟨V, hV⟩ : ∃ V : Nat, (wyS es (nxW es (inB es xs)) e j).2 = V := ⟨_, (Int.toNat_of_nonneg hvr.1).symm⟩
  rw [hV] at hvo hvr hor q1 q2 q3 hone hyr ⊢
  obtain ⟨NX, hNX⟩ : ∃ NX, nxW es (inB es xs) (V : Int) E = NX := ⟨_, rfl⟩
  rw [hNX] at q1 q2 q3 hone hyr ⊢
  obtain ⟨F, hF⟩ : ∃ F : Nat, othE es (V : Int) E = F := ⟨_, (Int.toNat_of_nonneg hor.1).symm⟩
  obtain ⟨Y, hY⟩ : ∃ Y : Nat, othE es (V : Int) NX = Y := ⟨_, (Int.toNat_of_nonneg hyr.1).symm⟩
  rw [hF, hY]
  exact iWithin_any N NX V Y Bg Bs b off n c m f ps es xs w hn hr g hx hm hrx hG.1 hG.2 hS (by omega) hY E F (fun h => q3 h.symm) hvo hlt (inB_iff.1 hvk).2 hF (fun x hx1 hx2 hx3 => (hone x (inB_iff.2 ⟨hx1, hx3⟩) hx2).symm)

theorem next_seq {N b off n c m f Bg Bs t j : Nat} {ps : Option Addr} {es : List (Int × Int)} {xs : List Int} (w : World) (C : CycF N es xs) (hn : es.length = n) (hr : ReadsE w b off es) (hx : xs.length = m) (hm : m ≤ 1048576) (hrx : SeesI w ps xs)
    (hG : Box w Bg N (some ⟨b, off, none⟩) n c) (hS : w.cell? ⟨Bs, 0, none⟩ = some (.slice ps m f)) (hj : j < perS es xs) :
    Calls Try.prog 124 (#[dirV (seqS es xs t j).1 (seqS es xs t j).2.1 (seqS es xs t j).2.2] ++ #[.pointer (some ⟨Bg, 0, none⟩), .pointer (some ⟨Bs, 0, none⟩)]) w
      fun r w' => r = .returned (dirV (seqS es xs t (j + 1)).1 (seqS es xs t (j + 1)).2.1 (seqS es xs t (j + 1)).2.2) ∧ Below w.heap.size w w' := by
  unfold seqS
  by_cases h : t = 0
  · rw [if_pos h, if_pos h]
    exact next_within w hn hr C.g hx hm hrx hG hS C.T C.ok j
  · rw [if_neg h, if_neg h]
    obtain ⟨b', hb'⟩ : ∃ b', perS es xs - (j + 1) = b' := ⟨_, rfl⟩
    have e1 : (perS es xs - (j + 1)) % perS es xs = b' := by rw [hb', Nat.mod_eq_of_lt (by omega)]
    have e2 : wkS es xs ((perS es xs - j) % perS es xs) = wkS es xs (b' + 1) := by
      by_cases h0 : j = 0
      · subst h0
        rw [Nat.sub_zero, Nat.mod_self, ← wk_end C]
        congr 1
        omega
      · rw [Nat.mod_eq_of_lt (by omega)]
        congr 1
        omega
    rw [e1, e2]
    exact next_back w hn hr C.g hx hm hrx hG hS C.T C.ok b'

/-- What lies in memory behind the first cycles. -/
structure OrW (w3 W : World) (B Bm cnt : Nat) (Ds : List Nat) (S : List DirT) : Prop where
  map : MapD W Bm cnt S
  len : S.length = cnt
  kept : Kept (fun i => i < w3.heap.size ∧ i ≠ Bm) w3 W
  nodup : Ds.Nodup
  col : ∀ D, D ∈ Ds → W.heap[D]? = some (.deferred (some [])) ∧ B ≤ D
theorem OrW.on {w3 W W' : World} {B Bm cnt : Nat} {Ds : List Nat} {S : List DirT} (h : OrW w3 W B Bm cnt Ds S) (hb : Below W.heap.size W W') : OrW w3 W' B Bm cnt Ds S :=
  ⟨h.map.on hb, h.len, h.kept.callD hb, h.nodup, fun D hD => ⟨(hb.block D (Array.getElem?_eq_some_iff.1 (h.col D hD).1).1).trans (h.col D hD).1, (h.col D hD).2⟩⟩
/-- What lies in memory while a cycle is gone along. -/
structure OrR (w5 W : World) (Bm cnt : Nat) (S : List DirT) (pre : List DirT) : Prop where
  map : MapD W Bm (cnt + pre.length) (S ++ pre)
  kept : Kept (fun i => i < w5.heap.size ∧ i ≠ Bm) w5 W
  nd : (S ++ pre).Nodup
theorem OrR.from (w5 : World) (Bm cnt : Nat) (S : List DirT) (hBm : Bm < w5.heap.size) : OwnFrom w5.heap.size (fun (pre : List DirT) W => OrR w5 W Bm cnt S pre) := by
  intro pre W W' row h hg hr
  have hm : W'.heap[Bm]? = W.heap[Bm]? := hg.block Bm h.map.lt (fun e => by have := (hr Bm e.symm).1; omega)
  exact ⟨h.map.sameO hm, h.kept.trans ⟨hg.os, hg.tape, hg.output, hg.size, fun i hi hl => hg.block i hl (fun e => by have := (hr i e.symm).1; omega)⟩, h.nd⟩
theorem OrR.moved {w5 W W' : World} {Bm cnt A : Nat} {S : List DirT} {pre : List DirT} (h : OrR w5 W Bm cnt S pre) (hm : Kept (fun i => i < A) W W') (hA : w5.heap.size ≤ A) (hBm : Bm < A) : OrR w5 W' Bm cnt S pre :=
  ⟨h.map.sameO (hm.same Bm hBm h.map.lt), h.kept.trans (hm.mono fun i hi => by omega), h.nd⟩
/-- What lies in memory where a directed edge is gone along once more. -/
structure OrX (w5 W : World) (Bm Br : Nat) (S : List DirT) (pre : List DirT) : Prop where
  res : W.heap[Br]? = some (.cells #[.bool false] 4 (0, 0))
  kept : Kept (fun i => i < w5.heap.size ∧ i ≠ Bm ∧ i ≠ Br) w5 W
  nd : ¬ (S ++ pre).Nodup
theorem OrX.from (w5 : World) (Bm Br : Nat) (S : List DirT) (c : Code) (hBr : Br < w5.heap.size) : OwnFrom w5.heap.size (fun (pre : List DirT) W => c = .ret ∧ OrX w5 W Bm Br S pre) := by
  rintro pre W W' row ⟨rfl, h⟩ hg hr
  exact ⟨rfl, (hg.block Br (Array.getElem?_eq_some_iff.1 h.res).1 (fun e => by have := (hr Br e.symm).1; omega)).trans h.res, h.kept.trans ⟨hg.os, hg.tape, hg.output, hg.size, fun i hi hl => hg.block i hl (fun e => by have := (hr i e.symm).1; omega)⟩, h.nd⟩
theorem OrX.moved {w5 W W' : World} {Bm Br A : Nat} {S : List DirT} {pre : List DirT} (h : OrX w5 W Bm Br S pre) (hm : Kept (fun i => i < A) W W') (hA : w5.heap.size ≤ A) (hBr : Br < A) : OrX w5 W' Bm Br S pre :=
  ⟨(hm.same Br hBr (Array.getElem?_eq_some_iff.1 h.res).1).trans h.res, h.kept.trans (hm.mono fun i hi => by omega), h.nd⟩
theorem dirU_pre (es : List (Int × Int)) (Ls : List (List Int)) (ts : List Int) (i : Nat) : ∀ k, ∃ z, dirU es Ls ts (i + k) = dirU es Ls ts i ++ z
  | 0 => ⟨[], by simp⟩
  | k + 1 => by
    obtain ⟨z, hz⟩ := dirU_pre es Ls ts i k
    refine ⟨z ++ seqL es (lI Ls (i + k)) (eI ts (i + k)).toNat, ?_⟩
    show dirU es Ls ts (i + k) ++ _ = _
    rw [hz, List.append_assoc]
    rfl
theorem seqL_len (es : List (Int × Int)) (xs : List Int) (t : Nat) : (seqL es xs t).length = perS es xs := by simp [seqL]
theorem al_wf {N : Nat} {es : List (Int × Int)} (g : IsG N es) {f t : Nat} (hf : f < es.length) : (Lit.int .i64 (alT es f t).1).wf = true ∧ (Lit.int .i64 (alT es f t).2.1).wf = true ∧ (Lit.int .i64 (alT es f t).2.2).wf = true := by
  have h1 := isG_len g
  have h2 := g.1.1.2.1
  have h3 := g.1.2 f hf
  unfold okEdge at h3
  have key : ∀ x : Int, 0 ≤ x → x ≤ 1000 → (Lit.int .i64 x).wf = true := fun x h1 h2 => WalkArith.wf_i64 (by omega)
  unfold alT
  split
  · exact ⟨key _ (by show (0 : Int) ≤ (f : Int); omega) (by show (f : Int) ≤ 1000; omega), key _ (by show (0 : Int) ≤ eA es f; omega) (by show eA es f ≤ 1000; omega), key _ (by show (0 : Int) ≤ eB es f; omega) (by show eB es f ≤ 1000; omega)⟩
  · exact ⟨key _ (by show (0 : Int) ≤ (f : Int); omega) (by show (f : Int) ≤ 1000; omega), key _ (by show (0 : Int) ≤ eB es f; omega) (by show eB es f ≤ 1000; omega), key _ (by show (0 : Int) ≤ eA es f; omega) (by show eA es f ≤ 1000; omega)⟩


/-- What holds at the head of the loop over the cycles. -/
def OrI (N b off n c lb lo m lc tb tq tc : Nat) (es : List (Int × Int)) (Ls : List (List Int)) (ts : List Int) (w w3 : World) (a' : Act) (W : World) : Prop :=
  ∃ (i cnt : Nat) (Ds : List Nat) (u8 u9 u10 u15 u16 u17 u18 u19 u20 u21 u22 u23 u24 u25 u26 u27 u28 u29 u30 u31 u32 u33 u34 u35 u36 u37 u38 : Value), a' = { tmps := #[.agg #[.int .i64 N, .slice (some ⟨b, off, none⟩) n c], .slice (some ⟨lb, lo, none⟩) m lc, .slice (some ⟨tb, tq, none⟩) m tc, .pointer (some ⟨w.heap.size, 0, none⟩), undef, undef, .pointer (some ⟨w.heap.size + 1, 0, none⟩), .pointer (some ⟨w.heap.size + 1 + 1 + 1, 0, none⟩), u8, u9, u10, .map (some (w.heap.size + 1 + 1)), .slice (some ⟨lb, lo, none⟩) m lc, .int .i64 m, .int .i64 i, u15, u16, u17, u18, u19, u20, u21, u22, u23, u24, u25, u26, u27, u28, u29, u30, u31, u32, u33, u34, u35, u36, u37, u38], defers := colls Ds } ∧ i ≤ m ∧
    Hid (OrW w3 W w3.heap.size (w.heap.size + 1 + 1) cnt Ds (dirU es Ls ts i)) ∧ Hid ((dirU es Ls ts i).Nodup ∧ cnt ≤ 30 * i)

set_option maxRecDepth 100000 in
set_option maxHeartbeats 16000000 in
theorem iOriented_any (N b off n c lb lo m lc tb tq tc : Nat) (es : List (Int × Int)) (Ls : List (List Int)) (ts : List Int) (w : World) (hn : es.length = n) (hr : ReadsE w b off es) (hL : Ls.length = m) (hm9 : m ≤ 1048576) (hrl : ReadsL w lb lo Ls) (hT : ts.length = m) (hrt : ReadsI w tb tq ts) (hC : ∀ i, i < m → CycF N es (lI Ls i)) (ht : ∀ i, i < m → 0 ≤ eI ts i ∧ eI ts i ≤ 1) :
    Calls Try.prog 61 #[.agg #[.int .i64 N, .slice (some ⟨b, off, none⟩) n c], .slice (some ⟨lb, lo, none⟩) m lc, .slice (some ⟨tb, tq, none⟩) m tc] w fun e' w' => e' = .returned (.bool (orientB es Ls ts)) ∧ Below w.heap.size w w' := by
  have Hn := hid hn
  have Hr := hid hr
  have HLl := hid hL
  have Hrl := hid hrl
  have HTl := hid hT
  have Hrt := hid hrt
  have HC := hid hC
  have HTr := hid ht
  have hmm := @run_makeMap Try.prog
  clear hn hr hL hrl hT hrt hC ht
  refine (callsIn_wide (n := 6)).1 ?_
  refine callsIn_of_wp_marks Try.func61 rfl trivial ?_ rfl
  simp only [Try.ntmps61, List.size_toArray, List.length_cons, List.length_nil, Nat.reduceAdd, Nat.reduceSub, Array.replicate_succ, Array.replicate_zero, List.push_toArray, List.append_toArray, List.nil_append, List.cons_append]
  gi_wp2_with fail
  obtain ⟨w3, hw3⟩ : ∃ w3, w3 = (((w.alloc (.cells #[.int .i64 N, .slice (some ⟨b, off, none⟩) n c] 28)).alloc (.cells #[.bool false] 4)).alloc (.map #[] 0)).alloc (.cells #[.map (some (w.heap.size + 1 + 1))] 113) := ⟨_, rfl⟩
  rw [← hw3]
  have HB3 := hid (show Below w.heap.size w w3 by rw [hw3]; exact bfrom (bfrom (bfrom (on_alloc _ _) (on_alloc _ _)) (on_alloc _ _)) (on_alloc _ _))
  have HS3 := hid (show w3.heap.size = w.heap.size + 1 + 1 + 1 + 1 by rw [hw3]; simp)
  have HX3 := hid (show Box w3 w.heap.size N (some ⟨b, off, none⟩) n c by
    rw [hw3]
    exact (((Box.new w N (some ⟨b, off, none⟩) n c 28).on (on_alloc _ _)).on (on_alloc _ _)).on (on_alloc _ _))
  have HR3 := hid (show w3.heap[w.heap.size + 1]? = some (.cells #[.bool false] 4 (0, 0)) by
    rw [hw3]
    exact (Below.heap_alloc _ _ _ (by simp only [World.size_alloc]; omega)).trans ((Below.heap_alloc _ _ _ (by simp only [World.size_alloc]; omega)).trans (by have h := World.alloc_heap_new (w.alloc (.cells #[.int .i64 N, .slice (some ⟨b, off, none⟩) n c] 28)) (.cells #[.bool false] 4); rwa [World.size_alloc] at h)))
  have HM3 := hid (show MapD w3 (w.heap.size + 1 + 1) 0 [] by
    rw [hw3]
    have h := (MapD.made ((w.alloc (.cells #[.int .i64 N, .slice (some ⟨b, off, none⟩) n c] 28)).alloc (.cells #[.bool false] 4))).on (on_alloc _ (.cells #[.map (some (w.heap.size + 1 + 1))] 113))
    rwa [World.size_alloc, World.size_alloc] at h)
  have HQ3 := hid (show w3.cell? ⟨w.heap.size + 1 + 1 + 1, 0, none⟩ = some (.map (some (w.heap.size + 1 + 1))) by
    rw [hw3]
    have h := (Boxed.new (((w.alloc (.cells #[.int .i64 N, .slice (some ⟨b, off, none⟩) n c] 28)).alloc (.cells #[.bool false] 4)).alloc (.map #[] 0)) 113 (.map (some (w.heap.size + 1 + 1)))).cell
    rw [World.size_alloc, World.size_alloc, World.size_alloc] at h
    exact h)
  clear hw3
  have hs3 := HS3.out
  refine wpIn_loop (OrI N b off n c lb lo m lc tb tq tc es Ls ts w w3) (fun a' _ => m - (intOf (a'.tmps.getD 14 undef)).toNat) ?start ?round
  case start => exact ⟨0, 0, [], _, _, _, _, _, _, _, _, _, _, _, _, _, _, _, _, _, _, _, _, _, _, _, _, _, _, _, rfl, Nat.zero_le _, hid ⟨HM3.out, rfl, Kept.refl _ _, List.nodup_nil, fun D h => by simp at h⟩, hid ⟨by simp [dirU], by omega⟩⟩
  case round =>
    rintro a' W ⟨i, cnt, Ds, u8, u9, u10, u15, u16, u17, u18, u19, u20, u21, u22, u23, u24, u25, u26, u27, u28, u29, u30, u31, u32, u33, u34, u35, u36, u37, u38, rfl, hi, hM, hND⟩
    have hszW := hM.out.kept.size
    have HW0 := hid (show ∀ k, k < w.heap.size → W.heap[k]? = w.heap[k]? from fun k hk => (hM.out.kept.same k ⟨by omega, by omega⟩ (by omega)).trans (HB3.out.block k hk))
    by_cases hlt : i < m
    · have hlt' : (i : Int) < (m : Int) := by omega
      have C := HC.out i hlt
      obtain ⟨q, f, hce, hse⟩ := Hrl.out i (by rw [HLl.out]; exact hlt)
      have hte := Hrt.out i (by rw [HTl.out]; exact hlt)
      have htr := HTr.out i hlt
      obtain ⟨T, hT0⟩ : ∃ T : Nat, eI ts i = T := ⟨_, (Int.toNat_of_nonneg htr.1).symm⟩
      have hT2 : T < 2 := by omega
      rw [hT0] at hte
      have HT0 := hid (show (eI ts i).toNat = T by omega)
      obtain ⟨xs, hxs⟩ : ∃ xs, lI Ls i = xs := ⟨_, rfl⟩
      rw [hxs] at C hce hse
      have HXs := hid hxs
      obtain ⟨sb, so, rfl, hrd⟩ : ∃ sb so, q = some ⟨sb, so, none⟩ ∧ ReadsI w sb so xs := by
        rcases hse with h | h
        · have := C.pos; rw [h] at this; simp at this
        · exact h
      obtain ⟨l, hl⟩ : ∃ l, xs.length = l := ⟨_, rfl⟩
      rw [hl] at hce
      have hl0 : 0 < l := by rw [← hl]; exact C.pos
      have hl0' : (0 : Int) < (l : Int) := by omega
      have hl30 : l ≤ 30 := by rw [← hl]; have h1 := set_len C.gs; have h2 := isG_len C.g; omega
      have hn30 : n ≤ 30 := by have := isG_len C.g; rw [Hn.out] at this; exact this
      obtain ⟨hE1, hE2⟩ := eX_at C.gs C.pos
      obtain ⟨E, hE⟩ : ∃ E, eX xs 0 = E := ⟨_, rfl⟩
      rw [hE] at hE1 hE2
      have hEn : E < n := by rw [Hn.out] at hE2; exact hE2
      have HE := hid hE
      have hx0 := hrd 0 C.pos
      rw [hE1, Nat.add_zero] at hx0
      have hsb : sb < w.heap.size := World.block_lt_of_cell? w _ hx0
      have htb : tb < w.heap.size := World.block_lt_of_cell? w _ hte
      have hlb : lb < w.heap.size := World.block_lt_of_cell? w _ hce
      have hc1 : W.cell? ⟨lb, lo + i, none⟩ = some (.slice (some ⟨sb, so, none⟩) l f) := (World.cell?_of_block (w := w) (a := ⟨lb, lo + i, none⟩) (HW0.out lb hlb)).trans hce
      have hc2 : W.cell? ⟨sb, so, none⟩ = some (.int .i64 (E : Int)) := (World.cell?_of_block (w := w) (a := ⟨sb, so, none⟩) (HW0.out sb hsb)).trans hx0
      have hc3 : W.cell? ⟨tb, tq + i, none⟩ = some (.int .i64 (T : Int)) := (World.cell?_of_block (w := w) (a := ⟨tb, tq + i, none⟩) (HW0.out tb htb)).trans hte
      have hbl1 : lb < W.heap.size := by omega
      have hbl2 : sb < W.heap.size := by omega
      have hbl3 : tb < W.heap.size := by omega
      have hbl : b < w.heap.size := reads_lt Hr.out (by omega)
      have HrW := hid (show ReadsE W b off es from Hr.out.keep (HW0.out b hbl))
      have hX0 : Box W w.heap.size N (some ⟨b, off, none⟩) n c := HX3.out.same (hM.out.kept.same w.heap.size ⟨by omega, by omega⟩ (by omega))
      have HGo := hid (show W.cell? ⟨w.heap.size + 1 + 1 + 1, 0, none⟩ = some (.map (some (w.heap.size + 1 + 1))) from (World.cell?_of_block (w := w3) (a := ⟨w.heap.size + 1 + 1 + 1, 0, none⟩) (hM.out.kept.same (w.heap.size + 1 + 1 + 1) ⟨by omega, by omega⟩ (by omega))).trans HQ3.out)
      have HCx := hid C
      have Hl := hid hl
      have Hrd := hid hrd
      have HX0 := hid hX0
      have HS0 := hid (fun (w' : World) (hb : Below W.heap.size W w') => (show w'.cell? ⟨w.heap.size, 0, none⟩ = some (.int .i64 (N : Int)) ∧ w'.cell? ⟨w.heap.size, 1, none⟩ = some (.slice (some ⟨b, off, none⟩) n c) ∧ w'.cell? ⟨sb, so, none⟩ = some (.int .i64 (E : Int)) ∧ w'.cell? ⟨tb, tq + i, none⟩ = some (.int .i64 (T : Int)) from ⟨(hX0.on hb).1, (hX0.on hb).2, (hb.cell (p := ⟨sb, so, none⟩) hbl2).trans hc2, (hb.cell (p := ⟨tb, tq + i, none⟩) hbl3).trans hc3⟩))
      obtain ⟨⟨x, y, z⟩, hd0⟩ : ∃ d, alT es E T = d := ⟨_, rfl⟩
      have hAl := iAlong_any N b off n c E T es W.drew Hn.out hn30 HrW.out hEn hT2
      rw [hd0] at hAl
      have HAl := hid hAl
      have HD0 := hid hd0
      clear C hce hse hte htr hT0 hxs hl hrd hE hE1 hE2 hx0 hX0 hd0 hAl hc2 hc3
      gi_wp2_with fail
      have hHeld : (fun w' => w'.cell? ⟨w.heap.size, 0, none⟩ = some (.int .i64 (N : Int)) ∧ w'.cell? ⟨w.heap.size, 1, none⟩ = some (.slice (some ⟨b, off, none⟩) n c) ∧ w'.cell? ⟨sb, so, none⟩ = some (.int .i64 (E : Int)) ∧ w'.cell? ⟨tb, tq + i, none⟩ = some (.int .i64 (T : Int))) W.drew := HS0.out _ (Below.refl _ _).drew
      refine region_held_wide (S := fun w' => w'.cell? ⟨w.heap.size, 0, none⟩ = some (.int .i64 (N : Int)) ∧ w'.cell? ⟨w.heap.size, 1, none⟩ = some (.slice (some ⟨b, off, none⟩) n c) ∧ w'.cell? ⟨sb, so, none⟩ = some (.int .i64 (E : Int)) ∧ w'.cell? ⟨tb, tq + i, none⟩ = some (.int .i64 (T : Int))) (by kernel_rfl) ?_
      refine wpAnyH_take (i := 0) (v := .agg #[.int .i64 N, .slice (some ⟨b, off, none⟩) n c]) rfl (by kernel_rfl) (by kernel_rfl) (by kernel_rfl) (fun _ _ _ h => h) (Or.inl ⟨by rfl, fun w' hSw => ?_⟩) (by assumption) ?_
      · have s0 := hSw.1
        have s1 := hSw.2.1
        go_simp
      simp only [Act.put, List.getElem_toArray, List.getElem_cons_zero, List.setIfInBounds_toArray, List.set_cons_zero, List.set_cons_succ]
      refine wpAnyH_take (i := 1) (v := .slice (some ⟨sb, so, none⟩) l f) rfl (by kernel_rfl) (by kernel_rfl) (by kernel_rfl) (fun _ _ _ h => h) (Or.inl ⟨by rfl, fun w' hSw => ?_⟩) (by assumption) ?_
      · have s0 := hSw.1
        clear s0
        go_simp
      simp only [Act.put, List.getElem_toArray, List.getElem_cons_zero, List.getElem_cons_succ, List.setIfInBounds_toArray, List.set_cons_zero, List.set_cons_succ]
      refine wpAnyH_take (i := 2) (v := .pointer (some ⟨sb, so, none⟩)) rfl (by kernel_rfl) (by kernel_rfl) (by kernel_rfl) (fun _ _ _ h => h) (Or.inl ⟨by rfl, fun w' hSw => ?_⟩) (by assumption) ?_
      · have s0 := hSw.1
        clear s0
        go_simp
      simp only [Act.put, List.getElem_toArray, List.getElem_cons_zero, List.getElem_cons_succ, List.setIfInBounds_toArray, List.set_cons_zero, List.set_cons_succ]
      refine wpAnyH_take (i := 3) (v := .int .i64 (E : Int)) rfl (by kernel_rfl) (by kernel_rfl) (by kernel_rfl) (fun _ _ _ h => h) (Or.inl ⟨by rfl, fun w' hSw => ?_⟩) (by assumption) ?_
      · have s0 := hSw.1
        have s2 := hSw.2.2.1
        go_simp
      simp only [Act.put, List.getElem_toArray, List.getElem_cons_zero, List.getElem_cons_succ, List.setIfInBounds_toArray, List.set_cons_zero, List.set_cons_succ]
      refine wpAnyH_take (i := 4) (v := .slice (some ⟨tb, tq, none⟩) m tc) rfl (by kernel_rfl) (by kernel_rfl) (by kernel_rfl) (fun _ _ _ h => h) (Or.inl ⟨by rfl, fun w' hSw => ?_⟩) (by assumption) ?_
      · have s0 := hSw.1
        clear s0
        go_simp
      simp only [Act.put, List.getElem_toArray, List.getElem_cons_zero, List.getElem_cons_succ, List.setIfInBounds_toArray, List.set_cons_zero, List.set_cons_succ]
      refine wpAnyH_take (i := 5) (v := .int .i64 (i : Int)) rfl (by kernel_rfl) (by kernel_rfl) (by kernel_rfl) (fun _ _ _ h => h) (Or.inl ⟨by rfl, fun w' hSw => ?_⟩) (by assumption) ?_
      · have s0 := hSw.1
        clear s0
        go_simp
      simp only [Act.put, List.getElem_toArray, List.getElem_cons_zero, List.getElem_cons_succ, List.setIfInBounds_toArray, List.set_cons_zero, List.set_cons_succ]
      refine wpAnyH_take (i := 6) (v := .pointer (some ⟨tb, tq + i, none⟩)) rfl (by kernel_rfl) (by kernel_rfl) (by kernel_rfl) (fun _ _ _ h => h) (Or.inl ⟨by rfl, fun w' hSw => ?_⟩) (by assumption) ?_
      · have s0 := hSw.1
        clear s0
        go_simp
      simp only [Act.put, List.getElem_toArray, List.getElem_cons_zero, List.getElem_cons_succ, List.setIfInBounds_toArray, List.set_cons_zero, List.set_cons_succ]
      refine wpAnyH_take (i := 7) (v := .int .i64 (T : Int)) rfl (by kernel_rfl) (by kernel_rfl) (by kernel_rfl) (fun _ _ _ h => h) (Or.inl ⟨by rfl, fun w' hSw => ?_⟩) (by assumption) ?_
      · have s0 := hSw.1
        have s3 := hSw.2.2.2
        go_simp
      simp only [Act.put, List.getElem_toArray, List.getElem_cons_zero, List.getElem_cons_succ, List.setIfInBounds_toArray, List.set_cons_zero, List.set_cons_succ]
      refine wpAnyH_take (i := 9) (v := .agg #[.int .i64 N, .slice (some ⟨b, off, none⟩) n c]) rfl (by kernel_rfl) (by kernel_rfl) (by kernel_rfl) (fun _ _ _ h => h) (Or.inl ⟨by rfl, fun w' hSw => ?_⟩) (by assumption) ?_
      · have s0 := hSw.1
        have s1 := hSw.2.1
        go_simp
      simp only [Act.put, List.getElem_toArray, List.getElem_cons_zero, List.getElem_cons_succ, List.setIfInBounds_toArray, List.set_cons_zero, List.set_cons_succ]
      refine wpAnyH_take (i := 10) (v := .slice (some ⟨sb, so, none⟩) l f) rfl (by kernel_rfl) (by kernel_rfl) (by kernel_rfl) (fun _ _ _ h => h) (Or.inl ⟨by rfl, fun w' hSw => ?_⟩) (by assumption) ?_
      · have s0 := hSw.1
        clear s0
        go_simp
      simp only [Act.put, List.getElem_toArray, List.getElem_cons_zero, List.getElem_cons_succ, List.setIfInBounds_toArray, List.set_cons_zero, List.set_cons_succ]
      refine wpAnyH_ready (rs := [8]) (by kernel_rfl) (by simp) ?_
      refine AllReadyH.cons rfl (fun K hK => ?_) AllReadyH.nil
      go_simp
      refine HAl.out.mono ?_
      rintro e' w4 ⟨rfl, hb4⟩
      have HB4 := hid (bfrom (w := W) (show Below W.heap.size W W.drew from (Below.refl _ _).drew) hb4)
      have h4s := HB4.out.size
      clear hb4
      refine hK.out _ _ (HS0.out _ HB4.out) (fun _ => ?_)
      clear hK K
      refine wpAnyH_ready (rs := [11]) (by kernel_rfl) (by simp) ?_
      refine AllReadyH.cons rfl (fun K hK => ?_) AllReadyH.nil
      go_simp
      refine (iMkWithin_any _ _ _ _ _ _ _ _).mono ?_
      rintro e' w' ⟨rfl, rfl⟩
      refine hK.out _ _ (HS0.out _ (bfrom (bfrom HB4.out (on_alloc _ _)) (on_alloc _ _))) (fun _ => ?_)
      clear hK K
      refine wpAnyH_ready (rs := [12]) (by kernel_rfl) (by simp) ?_
      refine AllReadyH.cons rfl (fun K hK => ?_) AllReadyH.nil
      go_simp
      refine (iWalk_any _ _ _ _ _ rfl).mono ?_
      rintro e' w' ⟨rfl, rfl⟩
      refine hK.out _ _ (HS0.out _ (bfrom (bfrom (bfrom (bfrom HB4.out (on_alloc _ _)) (on_alloc _ _)) (on_alloc _ _)) (on_alloc _ _))) (fun _ => ?_)
      clear hK K
      refine wpAnyH_done (by kernel_rfl) ?_ _
      rw [onlyN_normal]
      clear hHeld
      simp only [World.size_alloc]
      obtain ⟨w5, hw5⟩ : ∃ w5, w5 = (((w4.alloc (.cells #[.int .i64 N, .slice (some ⟨b, off, none⟩) n c] 28)).alloc (.cells #[.slice (some ⟨sb, so, none⟩) l f] 41)).alloc (.cells #[.int .i64 x, .int .i64 y, .int .i64 z] 118)).alloc (.cells #[.func (.func 124) #[] #[.pointer (some ⟨w4.heap.size, 0, none⟩), .pointer (some ⟨w4.heap.size + 1, 0, none⟩)]] 120) := ⟨_, rfl⟩
      rw [← hw5]
      have HB5 := hid (show Below W.heap.size W w5 by rw [hw5]; exact bfrom (bfrom (bfrom (bfrom HB4.out (on_alloc _ _)) (on_alloc _ _)) (on_alloc _ _)) (on_alloc _ _))
      have HS5 := hid (show w5.heap.size = w4.heap.size + 1 + 1 + 1 + 1 by rw [hw5]; simp)
      have HG5 := hid (show Box w5 w4.heap.size N (some ⟨b, off, none⟩) n c by
        rw [hw5]
        exact (((Box.new w4 N (some ⟨b, off, none⟩) n c 28).on (on_alloc _ _)).on (on_alloc _ _)).on (on_alloc _ _))
      have HP5 := hid (show w5.cell? ⟨w4.heap.size + 1, 0, none⟩ = some (.slice (some ⟨sb, so, none⟩) l f) by
        rw [hw5]
        have h := (((Boxed.new (w4.alloc (.cells #[.int .i64 N, .slice (some ⟨b, off, none⟩) n c] 28)) 41 (.slice (some ⟨sb, so, none⟩) l f)).alloc (.cells #[.int .i64 x, .int .i64 y, .int .i64 z] 118)).alloc (.cells #[.func (.func 124) #[] #[.pointer (some ⟨w4.heap.size, 0, none⟩), .pointer (some ⟨w4.heap.size + 1, 0, none⟩)]] 120)).cell
        rw [World.size_alloc] at h
        exact h)
      have HSt := hid (show BoxT w5 (w4.heap.size + 1 + 1) (seqS es xs T 0) by
        rw [seq_start es xs T hT2, HE.out, HD0.out, hw5]
        exact (Box3.new ((w4.alloc (.cells #[.int .i64 N, .slice (some ⟨b, off, none⟩) n c] 28)).alloc (.cells #[.slice (some ⟨sb, so, none⟩) l f] 41)) _ x y z (by simp)).on (on_alloc _ _))
      have HFn := hid (show w5.cell? ⟨w4.heap.size + 1 + 1 + 1, 0, none⟩ = some (.func (.func 124) #[] #[.pointer (some ⟨w4.heap.size, 0, none⟩), .pointer (some ⟨w4.heap.size + 1, 0, none⟩)]) by
        rw [hw5]
        have h := (Boxed.new (((w4.alloc (.cells #[.int .i64 N, .slice (some ⟨b, off, none⟩) n c] 28)).alloc (.cells #[.slice (some ⟨sb, so, none⟩) l f] 41)).alloc (.cells #[.int .i64 x, .int .i64 y, .int .i64 z] 118)) 120 (.func (.func 124) #[] #[.pointer (some ⟨w4.heap.size, 0, none⟩), .pointer (some ⟨w4.heap.size + 1, 0, none⟩)])).cell
        rw [World.size_alloc, World.size_alloc, World.size_alloc] at h
        exact h)
      have hs5 : w4.heap.size + 1 + 1 + 1 < w5.heap.size := by have := HS5.out; omega
      obtain ⟨S, hS⟩ : ∃ S, dirU es Ls ts i = S := ⟨_, rfl⟩
      rw [hS] at hM hND
      have HSu := hid hS
      have hcn : cnt ≤ 31457280 := by have := hND.out.2; omega
      have HI0 := hid (show OrR w5 w5 (w.heap.size + 1 + 1) cnt S [] from ⟨by rw [List.append_nil]; exact hM.out.map.on HB5.out, Kept.refl _ _, by rw [List.append_nil]; exact hND.out.1⟩)
      have HRes := hid (show w5.heap[w.heap.size + 1]? = some (.cells #[.bool false] 4 (0, 0)) from (HB5.out.block (w.heap.size + 1) (by omega)).trans ((hM.out.kept.same (w.heap.size + 1) ⟨by omega, by omega⟩ (by omega)).trans HR3.out))
      obtain ⟨K, hK⟩ : ∃ K, perS es xs = K := ⟨_, rfl⟩
      have HK := hid hK
      have hK0 : 0 < K := by rw [← hK]; exact HCx.out.kpos
      have hK30 : K ≤ 30 := by have h1 := HCx.out.kle; rw [hK, Hn.out] at h1; omega
      clear hw5 hS hK hc1
      gi_wp2_with fail
      refine rangeFunc_movesB (n := 6) rfl (by omega) (gf := 123) (lb := #[.pointer (some ⟨w4.heap.size + 1 + 1, 0, none⟩), .pointer (some ⟨w4.heap.size + 1 + 1 + 1, 0, none⟩)]) rfl trivial (enters_of Try.func123 (by kernel_rfl) rfl) (A := w5.heap.size + 2) rfl
        (walk_movesX 4 (w5.heap.size + 2) (w4.heap.size + 1 + 1) (w4.heap.size + 1 + 1 + 1) 124 K #[.pointer (some ⟨w4.heap.size, 0, none⟩), .pointer (some ⟨w4.heap.size + 1, 0, none⟩)] (seqS es xs T) (fun i => i ≠ w.heap.size + 1 + 1) w5 (by omega) (by omega) (by omega) (by omega) (by omega) hK0 (by rw [← HK.out]; exact seq_end HCx.out T) (fun a1 a2 h12 h2K e => by
            have := seq_inj HCx.out T (i := a1) (j := a2) (by rw [HK.out]; omega) (by rw [HK.out]; exact h2K) e
            omega) HSt.out HFn.out (enters_of Try.func124 (by kernel_rfl) rfl)
          (fun j hj W' hW' => by
            have hk : ∀ k, k < W.heap.size → k ≠ w.heap.size + 1 + 1 → W'.heap[k]? = W.heap[k]? := fun k h1 h2 => (hW'.same k ⟨by omega, h2⟩ (by omega)).trans (HB5.out.block k h1)
            have hk0 : ∀ k, k < w.heap.size → W'.heap[k]? = w.heap[k]? := fun k h1 => (hk k (by omega) (by omega)).trans (HW0.out k h1)
            have e1 := hW'.same w4.heap.size ⟨by omega, by omega⟩ (by omega)
            have e2 := hW'.same (w4.heap.size + 1) ⟨by omega, by omega⟩ (by omega)
            exact next_seq (N := N) (b := b) (off := off) (n := n) (c := c) (m := l) (f := f) (Bg := w4.heap.size) (Bs := w4.heap.size + 1) (ps := some ⟨sb, so, none⟩) W' HCx.out Hn.out (Hr.out.keep (hk0 b hbl)) Hl.out (by omega) (.inr ⟨sb, so, rfl, Hrd.out.keep (hk0 sb hsb)⟩) (HG5.out.same e1) ((World.cell?_of_block (w := w5) (a := ⟨w4.heap.size + 1, 0, none⟩) e2).trans HP5.out) (by rw [HK.out]; exact hj)))
        (fun h k => h.trans k) (fun W' lo o o' h1 h2 hl ho => ⟨rfl, rfl, rfl, by simp [World.putObj], fun i hp hi => World.putObj_heap_other (by rcases hp with hp | hp <;> omega)⟩)
        (fun Y Z i o h h1 h2 ho => (h.same i (by omega) (Array.getElem?_eq_some_iff.1 ho).1).trans ho) (fun Y Z h => h.size) (fun x W' lo o o' h _ _ hl ho => h) (Below.refl _ _) (fun _ => rfl)
        (fun (pre : List DirT) W' => OrR w5 W' (w.heap.size + 1 + 1) cnt S pre)
        (fun cd pre W' => cd = .ret ∧ OrX w5 W' (w.heap.size + 1 + 1) (w.heap.size + 1) S pre)
        (OrR.from w5 (w.heap.size + 1 + 1) cnt S (by omega))
        (fun cd => OrX.from w5 (w.heap.size + 1 + 1) (w.heap.size + 1) S cd (by omega))
        (fun s Y Z h hm => h.moved hm (by omega) (by omega))
        (fun _ s Y Z h hm => ⟨h.1, h.2.moved hm (by omega) (by omega)⟩)
        HI0.out (fun v => .cells #[.int .i64 v.1, .int .i64 v.2.1, .int .i64 v.2.2] 118) (fun W' o => (Kept.refl _ W').callD (on_alloc W' o)) (fun _ _ _ h => h)
        (fun (v : DirT) (B : Nat) => { tmps := #[.agg #[.int .i64 N, .slice (some ⟨b, off, none⟩) n c], .slice (some ⟨lb, lo, none⟩) m lc, .slice (some ⟨tb, tq, none⟩) m tc, .pointer (some ⟨w.heap.size, 0, none⟩), undef, undef, .pointer (some ⟨w.heap.size + 1, 0, none⟩), .pointer (some ⟨w.heap.size + 1 + 1 + 1, 0, none⟩), .int .i64 i, .slice (some ⟨sb, so, none⟩) l f, .pointer (some ⟨B, 0, none⟩), .map (some (w.heap.size + 1 + 1)), .slice (some ⟨lb, lo, none⟩) m lc, .int .i64 m, .int .i64 i, .bool true, .int .i64 i, .pointer (some ⟨lb, lo + i, none⟩), .slice (some ⟨sb, so, none⟩) l f, .agg #[.int .i64 N, .slice (some ⟨b, off, none⟩) n c], .slice (some ⟨sb, so, none⟩) l f, .pointer (some ⟨sb, so, none⟩), .int .i64 E, .slice (some ⟨tb, tq, none⟩) m tc, .int .i64 i, .pointer (some ⟨tb, tq + i, none⟩), .int .i64 T, dirV x y z, .agg #[.int .i64 N, .slice (some ⟨b, off, none⟩) n c], .slice (some ⟨sb, so, none⟩) l f, .func (.func 124) #[] #[.pointer (some ⟨w4.heap.size, 0, none⟩), .pointer (some ⟨w4.heap.size + 1, 0, none⟩)], .func (.func 123) #[] #[.pointer (some ⟨w4.heap.size + 1 + 1, 0, none⟩), .pointer (some ⟨w4.heap.size + 1 + 1 + 1, 0, none⟩)], dirV v.1 v.2.1 v.2.2, u33, u34, u35, u36, u37, u38], defers := [] }) ?assign ?body ?done ?stop
      case assign =>
        intro lo' v W' K hK
        gi_wp2
        exact hK
      case body =>
        rintro lo' pre v B W' hI hX hBA hBx hlen
        obtain ⟨vx, vy, vz⟩ := v
        obtain ⟨jj, hjj, hvj⟩ := hX
        have hvw : (Lit.int .i64 vx).wf = true ∧ (Lit.int .i64 vy).wf = true ∧ (Lit.int .i64 vz).wf = true := by
          have hin : (vx, vy, vz) ∈ seqL es xs T := by rw [hvj]; unfold seqL; exact List.mem_map_of_mem (List.mem_range.2 (by rw [HK.out]; exact hjj))
          obtain ⟨fe, hfe, h | h⟩ := seqL_al HCx.out T hin
          · have h2 := al_wf HCx.out.g (f := fe) (t := 0) hfe
            rw [← h] at h2; exact h2
          · have h2 := al_wf HCx.out.g (f := fe) (t := 1) hfe
            rw [← h] at h2; exact h2
        obtain ⟨v1, v2, v3⟩ := hvw
        dsimp only at hBx
        have hszK := hI.kept.size
        have HI := hid hI
        have hc3 : W'.cell? ⟨w.heap.size + 1 + 1 + 1, 0, none⟩ = some (.map (some (w.heap.size + 1 + 1))) := (World.cell?_of_block (w := W) (a := ⟨w.heap.size + 1 + 1 + 1, 0, none⟩) ((hI.kept.same (w.heap.size + 1 + 1 + 1) ⟨by omega, by omega⟩ (by omega)).trans (HB5.out.block (w.heap.size + 1 + 1 + 1) (by omega)))).trans HGo.out
        have hb0 : W'.cell? ⟨B, 0, none⟩ = some (.int .i64 vx) := cell_of_row W' B 0 _ _ _ hBx
        have hb1 : W'.cell? ⟨B, 1, none⟩ = some (.int .i64 vy) := cell_of_row W' B 1 _ _ _ hBx
        have hb2 : W'.cell? ⟨B, 2, none⟩ = some (.int .i64 vz) := cell_of_row W' B 2 _ _ _ hBx
        have hBB : B < W'.heap.size := (Array.getElem?_eq_some_iff.1 hBx).1
        have hZl : w.heap.size + 1 + 1 + 1 < W'.heap.size := by omega
        have hml := hI.map.look Try.underlying113 v1 v2 v3
        by_cases hin : (vx, vy, vz) ∈ S ++ pre
        · rw [decide_eq_true hin] at hml
          have hRb : W'.heap[w.heap.size + 1]? = some (.cells #[.bool false] 4 (0, 0)) := (hI.kept.same (w.heap.size + 1) ⟨by omega, by omega⟩ (by omega)).trans HRes.out
          have hRc : W'.cell? ⟨w.heap.size + 1, 0, none⟩ = some (.bool false) := cell_of_row W' _ 0 _ _ _ hRb
          have hRf : W'.frozen? ⟨w.heap.size + 1, 0, none⟩ = false := frozen_of_row W' _ 0 _ _ hRb
          have hRl : w.heap.size + 1 < W'.heap.size := by omega
          have HRb := hid hRb
          have HIn := hid hin
          clear hI hBx hRb hin v1 v2 v3 hvj
          gi_wp2
          have hkeep : ∀ k, k ≠ w.heap.size + 1 → (W'.setCell ⟨w.heap.size + 1, 0, none⟩ (.bool false)).heap[k]? = W'.heap[k]? := fun k h => heap_setCell_other W' ⟨w.heap.size + 1, 0, none⟩ k _ h
          have hsz : (W'.setCell ⟨w.heap.size + 1, 0, none⟩ (.bool false)).heap.size = W'.heap.size := by simp [World.setCell]
          refine ⟨⟨by rw [hsz]; exact Nat.le_refl _, fun k o hk ho hcs => (hkeep k (by omega)).trans ho⟩, rfl, ⟨?_, ?_, ?_⟩⟩
          · exact heap_setCell_same _ _ _ _ _ _ HRb.out
          · exact (HI.out.kept.mono fun k hk => ⟨hk.1, hk.2.1⟩).trans ⟨rfl, rfl, rfl, by rw [hsz]; exact Nat.le_refl _, fun k hk hl => hkeep k hk.2.2⟩
          · intro hnd
            rw [← List.append_assoc] at hnd
            exact (List.nodup_append.1 hnd).2.2 _ HIn.out _ (List.mem_singleton.2 rfl) rfl
        · rw [decide_eq_false hin] at hml
          obtain ⟨w7, hput, hM7, hg7⟩ := hI.map.put Try.underlying113 (by unfold maxLen; omega) v1 v2 v3
          have HM7 := hid hM7
          have HG7 := hid hg7
          have HIn := hid hin
          have hs7 := hg7.size
          clear hI hBx hg7 hM7 v1 v2 v3 hvj hin
          gi_wp2
          have hkeep : ∀ k, k < W'.heap.size → k ≠ w.heap.size + 1 + 1 → w7.heap[k]? = W'.heap[k]? := fun k h1 h2 => HG7.out.block k h1 (fun e => h2 (Option.some.inj e))
          refine ⟨⟨hs7, fun k o hk ho hcs => (hkeep k (Array.getElem?_eq_some_iff.1 ho).1 (by omega)).trans ho⟩, ⟨HG7.out.os, HG7.out.tape, HG7.out.output, hs7, fun k hk hl => hkeep k hl (by rcases hk with hk | hk; exact hk.2; omega)⟩, ⟨?_, ?_, ?_⟩⟩
          · rw [List.length_append, ← Nat.add_assoc, ← List.append_assoc]
            exact HM7.out
          · exact HI.out.kept.trans ⟨HG7.out.os, HG7.out.tape, HG7.out.output, hs7, fun k hk hl => hkeep k hl hk.2⟩
          · rw [← List.append_assoc]
            refine List.nodup_append.2 ⟨HI.out.nd, by simp, fun a ha b' hb' e => ?_⟩
            rw [List.mem_singleton.1 hb'] at e
            rw [e] at ha
            exact HIn.out ha
      case done =>
        rintro D ys W' hD hSy hI hKd
        subst hSy
        have hszK := hI.kept.size
        have HI := hid hI
        have HKd := hid hKd
        have hmap := hI.map
        have hnd := hI.nd
        rw [List.length_map, List.length_range] at hmap
        have hDz : D < W'.heap.size := (Array.getElem?_eq_some_iff.1 hKd).1
        have hnx : S ++ (List.range K).map (seqS es xs T) = dirU es Ls ts (i + 1) := by
          rw [← HSu.out, ← HXs.out, ← HK.out, ← HT0.out, ← HXs.out]
          rfl
        rw [hnx] at hmap hnd
        have HNx := hid hnx
        have HMap := hid hmap
        have HNd := hid hnd
        clear hI hKd hmap hnd hnx
        gi_wp2
        have hDs : ∀ D', D' ∈ Ds → D' < W.heap.size := fun D' h => (Array.getElem?_eq_some_iff.1 (hM.out.col D' h).1).1
        have hsz5 := HB5.out.size
        have HW9 := hid (show OrW w3 W' w3.heap.size (w.heap.size + 1 + 1) (cnt + K) (D :: Ds) (dirU es Ls ts (i + 1)) by
          refine ⟨HMap.out, ?_, ?_, ?_, ?_⟩
          · rw [← HNx.out, List.length_append, hM.out.len, List.length_map, List.length_range]
          · refine ⟨HI.out.kept.os.trans (HB5.out.os.trans hM.out.kept.os), HI.out.kept.tape.trans (HB5.out.tape.trans hM.out.kept.tape), HI.out.kept.output.trans (HB5.out.output.trans hM.out.kept.output), by omega, fun k hk hl => ?_⟩
            exact (HI.out.kept.same k ⟨by omega, hk.2⟩ (by omega)).trans ((HB5.out.block k (by omega)).trans (hM.out.kept.same k hk hl))
          · refine List.nodup_cons.2 ⟨fun h => ?_, hM.out.nodup⟩
            have := hDs D h
            omega
          · intro D' hD'
            rcases List.mem_cons.1 hD' with rfl | h
            · exact ⟨HKd.out, by omega⟩
            · obtain ⟨h1, h2⟩ := hM.out.col D' h
              have h3 := hDs D' h
              exact ⟨(HI.out.kept.same D' ⟨by omega, by omega⟩ (by omega)).trans ((HB5.out.block D' h3).trans h1), h2⟩)
        refine ⟨⟨i + 1, cnt + K, D :: Ds, _, _, _, _, _, _, _, _, _, _, _, _, _, _, _, _, _, _, _, _, _, _, _, _, _, _, _, rfl, by omega, HW9, hid ⟨HNd.out, by have := hND.out.2; omega⟩⟩, ?_⟩
        show m - (intOf (.int .i64 ((i : Int) + 1))).toNat < m - (intOf (.int .i64 (i : Int))).toNat
        simp [intOf]
        omega
      case stop =>
        rintro D c' pre W' hD hpre ⟨rfl, hX⟩ hKd
        have HX := hid hX
        have HKd := hid hKd
        have hszK := hX.kept.size
        have hDz : D < W'.heap.size := (Array.getElem?_eq_some_iff.1 hKd).1
        have hsz5 := HB5.out.size
        clear hX hKd
        gi_wp2
        have hDs : ∀ D', D' ∈ Ds → D' < W.heap.size := fun D' h => (Array.getElem?_eq_some_iff.1 (hM.out.col D' h).1).1
        have hno : ∀ D', D' ∈ D :: Ds → w3.heap.size ≤ D' := fun D' hD' => by
          rcases List.mem_cons.1 hD' with rfl | h
          · omega
          · exact (hM.out.col D' h).2
        have hOr : orientB es Ls ts = false := by
          unfold orientB
          rw [decide_eq_false_iff_not, HLl.out]
          intro hnd
          obtain ⟨zz, hzz⟩ := dirU_pre es Ls ts (i + 1) (m - (i + 1))
          rw [show i + 1 + (m - (i + 1)) = m by omega] at hzz
          rw [hzz] at hnd
          have h1 := (List.nodup_append.1 hnd).1
          have hnx : dirU es Ls ts (i + 1) = S ++ (List.range K).map (seqS es xs T) := by
            rw [← HSu.out, ← HXs.out, ← HK.out, ← HT0.out, ← HXs.out]
            rfl
          rw [hnx] at h1
          refine HX.out.nd (h1.sublist (List.Sublist.append_left ?_ S))
          obtain ⟨kk, hkk⟩ := hpre
          first
            | (obtain ⟨h2, rfl⟩ := hkk; exact (List.range_sublist.2 h2).map _)
            | (rw [← hkk]; exact List.sublist_append_left _ _)
        refine leaves_collsC (v := .bool false) (D :: Ds) W' (fun w' h5 => ?_) ?_ ?_ (fun w' h1 h2 h3 h4 h5 => ⟨?_, ?_⟩)
        · have hc : w'.cell? ⟨w.heap.size + 1, 0, none⟩ = some (.bool false) := cell_of_row w' _ 0 _ _ _ ((h5 _ (fun hin => by have := hno _ hin; omega)).trans HX.out.res)
          simp [results, Try.results61, go_sem, hc]
        · refine List.nodup_cons.2 ⟨fun h => ?_, hM.out.nodup⟩
          have := hDs D h
          omega
        · intro D' hD'
          rcases List.mem_cons.1 hD' with rfl | h
          · exact HKd.out
          · obtain ⟨h1, h2⟩ := hM.out.col D' h
            have h3 := hDs D' h
            exact (HX.out.kept.same D' ⟨by omega, by omega, by omega⟩ (by omega)).trans ((HB5.out.block D' h3).trans h1)
        · rw [hOr]
        · refine ⟨h1.trans (HX.out.kept.os.trans (HB5.out.os.trans (hM.out.kept.os.trans HB3.out.os))), h2.trans (HX.out.kept.tape.trans (HB5.out.tape.trans (hM.out.kept.tape.trans HB3.out.tape))), h3.trans (HX.out.kept.output.trans (HB5.out.output.trans (hM.out.kept.output.trans HB3.out.output))), by rw [h4]; omega, fun k hk => ?_⟩
          exact (h5 k (fun hin => by have := hno k hin; omega)).trans ((HX.out.kept.same k ⟨by omega, by omega, by omega⟩ (by omega)).trans ((HB5.out.block k (by omega)).trans (HW0.out k hk)))
    · obtain rfl : i = m := by omega
      have hRb : W.heap[w.heap.size + 1]? = some (.cells #[.bool false] 4 (0, 0)) := (hM.out.kept.same (w.heap.size + 1) ⟨by omega, by omega⟩ (by omega)).trans HR3.out
      have hRc : W.cell? ⟨w.heap.size + 1, 0, none⟩ = some (.bool false) := cell_of_row W _ 0 _ _ _ hRb
      have hRf : W.frozen? ⟨w.heap.size + 1, 0, none⟩ = false := frozen_of_row W _ 0 _ _ hRb
      have hRl : w.heap.size + 1 < W.heap.size := by omega
      have HRb := hid hRb
      clear hRb
      gi_wp2
      have hkeep : ∀ k, k ≠ w.heap.size + 1 → (W.setCell ⟨w.heap.size + 1, 0, none⟩ (.bool true)).heap[k]? = W.heap[k]? := fun k h => heap_setCell_other W ⟨w.heap.size + 1, 0, none⟩ k _ h
      have hsz : (W.setCell ⟨w.heap.size + 1, 0, none⟩ (.bool true)).heap.size = W.heap.size := by simp [World.setCell]
      have hno : ∀ D', D' ∈ Ds → w3.heap.size ≤ D' := fun D' h => (hM.out.col D' h).2
      refine leaves_collsC (v := .bool true) Ds _ (fun w' h5 => ?_) hM.out.nodup (fun D h => (hkeep D (by have := hno D h; omega)).trans (hM.out.col D h).1) (fun w' h1 h2 h3 h4 h5 => ⟨?_, ?_⟩)
      · have hc : w'.cell? ⟨w.heap.size + 1, 0, none⟩ = some (.bool true) := cell_of_row w' _ 0 _ _ _ ((h5 _ (fun hin => by have := hno _ hin; omega)).trans (heap_setCell_same _ _ _ _ _ _ HRb.out))
        simp [results, Try.results61, go_sem, hc]
      · rw [show orientB es Ls ts = true by unfold orientB; rw [HLl.out]; exact decide_eq_true hND.out.1]
      · refine ⟨h1.trans (hM.out.kept.os.trans HB3.out.os), h2.trans (hM.out.kept.tape.trans HB3.out.tape), h3.trans (hM.out.kept.output.trans HB3.out.output), by rw [h4, hsz]; omega, fun k hk => ?_⟩
        exact (h5 k (fun hin => by have := hno k hin; omega)).trans ((hkeep k (by omega)).trans (HW0.out k hk))

end Go.Proofs.Ytfdlhdgmbjdhbaa

/- IsOrientedBy in the program. -/
namespace Go.Proofs.Ytfdlhdgmbjdhbaa
open Go.RowKit

def turnP (ts : List Int) (m : Nat) : Prop := ts.length = m ∧ ∀ i, i < m → 0 ≤ eI ts i ∧ eI ts i < 2
instance (ts : List Int) (m : Nat) : Decidable (turnP ts m) := by unfold turnP; infer_instance
def fIsOrientedBy (s : Int) (es : List (Int × Int)) (Ls : List (List Int)) (ts : List Int) : Bool × Int := if setsCode s es Ls = 0 then (if turnP ts Ls.length then (if dblP s.toNat es Ls then (orientB es Ls ts, 0) else (false, 5)) else (false, 2)) else (false, setsCode s es Ls)
theorem setsCode_zero {s : Int} {es : List (Int × Int)} {Ls : List (List Int)} (h : setsCode s es Ls = 0) : IsG s es ∧ areSetsP es.length Ls := by
  unfold setsCode at h
  split at h
  · rename_i g
    split at h
    · rename_i k
      exact ⟨g, k⟩
    · cases h
  · cases h
theorem dbl_pos {N : Nat} {es : List (Int × Int)} {Ls : List (List Int)} (g : IsG N es) (h : dblP N es Ls) : 0 < Ls.length := by
  by_cases h0 : Ls.length = 0
  · have h1 := h.2 0 (by have := g.1.1.2.2.2; have := g.1.1.1; omega)
    rw [h0] at h1
    have h2 : eI (List.replicate es.length (0 : Int)) 0 = 0 := by
      unfold eI
      rw [List.getD_eq_getElem?_getD, List.getElem?_replicate]
      split <;> rfl
    have h3 : eI (List.replicate es.length (0 : Int)) 0 = 2 := h1
    omega
  · omega
theorem dbl_cyc {N : Nat} {es : List (Int × Int)} {Ls : List (List Int)} (g : IsG N es) (gs : areSetsP es.length Ls) (h : dblP N es Ls) : ∀ i, i < Ls.length → CycF N es (lI Ls i) := fun i hi => cycF_of g (gs i hi) (h.1 i hi)

set_option maxRecDepth 100000 in
set_option maxHeartbeats 2000000 in
theorem iAreBelowO_any (N : Int) (p : Option Addr) (m c : Nat) (xs : List Int) (w : World) (hx : xs.length = m) (hm : m ≤ 1048576) (hr : SeesI w p xs) :
    Calls Try.prog 35 #[.int .i64 N, .slice p m c] w fun e w' => e = .returned (.bool (decide (∀ i, i < m → 0 ≤ eI xs i ∧ eI xs i < N))) ∧ w' = w := by
  have Hx := hid hx
  have Hr := hid hr
  have hm9 : m ≤ 9223372036854775807 := by omega
  obtain ⟨r, hR⟩ : ∃ r, decide (∀ i, i < m → 0 ≤ eI xs i ∧ eI xs i < N) = r := ⟨_, rfl⟩
  rw [hR]
  have HR := hid hR
  clear hx hr hR
  go_enter Try.func35, Try.ntmps35
  go_wp2
  go_loop [9] (fun i => ∃ k : Nat, k ≤ m ∧ i = .int .i64 k ∧ Hid (∀ j, j < k → 0 ≤ eI xs j ∧ eI xs j < N)) (fun i => m - (intOf i).toNat)
  case atStart => exact ⟨0, Nat.zero_le _, rfl, hid (fun j hj => by omega)⟩
  case round =>
    obtain ⟨k, hk, rfl, hE⟩ := hrel
    by_cases hlt : k < m
    · have hlt' : (k : Int) < (m : Int) := by omega
      obtain ⟨b, off, rfl, hrd⟩ : ∃ b off, p = some ⟨b, off, none⟩ ∧ ReadsI w b off xs := by
        rcases Hr.out with h | h
        · have := Hx.out; rw [h] at this; simp at this; omega
        · exact h
      have h1 := hrd k (by have := Hx.out; omega)
      obtain ⟨y, hy⟩ : ∃ y, eI xs k = y := ⟨_, rfl⟩
      rw [hy] at h1
      have HY := hid hy
      clear hy hrd
      by_cases hv : 0 ≤ y ∧ y < N
      · have Hv := hid hv
        clear hv
        go_wp2_with (go_at_call 71; refine (iBelow_yes _ _ _ Hv.out).mono ?_; rintro e' w' ⟨rfl, rfl⟩)
        go_round
        case rel =>
          refine ⟨k + 1, by omega, by go_num, hid (fun j hj => ?_)⟩
          rcases Nat.lt_or_ge j k with h | h
          · exact hE.out j h
          · have ej : j = k := by omega
            rw [ej, HY.out]
            exact Hv.out
        case measure => simp [intOf]; omega
      · have Hv := hid hv
        clear hv
        go_wp2_with (go_at_call 71; refine (iBelow_no _ _ _ Hv.out).mono ?_; rintro e' w' ⟨rfl, rfl⟩)
        go_ret
        refine ⟨?_, rfl⟩
        rw [← HR.out, decide_eq_false (fun h => Hv.out (by have h1 := h k hlt; rwa [HY.out] at h1))]
        rfl
    · have hkn := hid (show k = m by omega)
      go_wp2
      go_ret
      refine ⟨?_, rfl⟩
      rw [← HR.out, decide_eq_true (fun j hj => hE.out j (by have := hkn.out; omega))]
      rfl

set_option maxRecDepth 100000 in
set_option maxHeartbeats 2000000 in
theorem iTurns_any (p : Option Addr) (m c k : Nat) (ts : List Int) (w : World) (hx : ts.length = m) (hm : m ≤ 1048576) (hr : SeesI w p ts) :
    Calls Try.prog 59 #[.slice p m c, .int .i64 (k : Int)] w fun e w' => e = .returned (.bool (decide (turnP ts k))) ∧ w' = w := by
  obtain ⟨r, hR⟩ : ∃ r, decide (turnP ts k) = r := ⟨_, rfl⟩
  rw [hR]
  have Hx := hid hx
  have Hr := hid hr
  by_cases h : m = k
  · subst h
    have h1 : decide (∀ i, i < m → 0 ≤ eI ts i ∧ eI ts i < 2) = r := by
      rw [← hR]
      exact decide_eq_decide.2 ⟨fun h => ⟨hx, h⟩, fun h => h.2⟩
    have H1 := hid h1
    clear hx hr hR h1
    go_enter Try.func59, Try.ntmps59
    go_wp2_with (go_at_call 35; refine (iAreBelowO_any 2 p m c ts _ Hx.out hm Hr.out).mono ?_; rw [H1.out]; rintro e' w' ⟨rfl, rfl⟩)
    go_ret
    exact ⟨rfl, rfl⟩
  · have t1 : ((m : Int) == (k : Int)) = false := by simp; omega
    have h1 : r = false := by rw [← hR]; exact decide_eq_false (fun k2 => h (by rw [← hx]; exact k2.1))
    subst h1
    clear hx hr hR
    go_enter Try.func59, Try.ntmps59
    go_wp2
    go_ret
    exact ⟨rfl, rfl⟩

set_option maxRecDepth 100000 in
set_option maxHeartbeats 4000000 in
theorem iOr_code (s q0 : Int) (p ps pt : Option Addr) (n c k f kt ft : Nat) (es : List (Int × Int)) (Ls : List (List Int)) (w : World) (hm : n ≤ 1048576) (hn : es.length = n) (hr : SeesE w p es) (hk9 : k ≤ 1048576) (hx : Ls.length = k) (hlx : ∀ i, i < k → (lI Ls i).length ≤ 1048576) (hrx : SeesL w ps Ls) (hq : setsCode s es Ls = q0) (hne : (q0 != 0) = true) :
    Calls Try.prog 22 #[.agg #[.int .i64 s, .slice p n c], .slice ps k f, .slice pt kt ft] w fun e' w' => e' = .returned (.tuple #[.bool false, .int .i64 q0]) ∧ Below w.heap.size w w' := by
  have Hn := hid hn
  have Hr := hid hr
  have Hx := hid hx
  have Hlx := hid hlx
  have Hrx := hid hrx
  have HQ := hid hq
  clear hn hr hx hlx hrx hq
  go_enter Try.func22, Try.ntmps22
  go_wp2_with fail
  refine (iSets_any s p ps n c k f es Ls _ hm Hn.out (Hr.out.on (on_alloc _ _)) Hx.out hk9 Hlx.out (Hrx.out.on (on_alloc _ _))).mono ?_
  rw [HQ.out]
  rintro e w2 ⟨rfl, hb2⟩
  have HB2 := hid (bfrom (w := w) (on_alloc _ _) hb2)
  clear hb2
  go_wp2
  go_ret2
  exact ⟨rfl, HB2.out⟩

set_option maxRecDepth 100000 in
set_option maxHeartbeats 8000000 in
theorem iOr_yes (N : Nat) (b off n c k f kt ft : Nat) (ps pt : Option Addr) (es : List (Int × Int)) (Ls : List (List Int)) (ts : List Int) (w : World) (hn : es.length = n) (hr : ReadsE w b off es) (g : IsG N es) (hk9 : k ≤ 1048576) (hx : Ls.length = k) (hlx : ∀ i, i < k → (lI Ls i).length ≤ 1048576) (hrx : SeesL w ps Ls) (gs : areSetsP n Ls) (hkt : kt ≤ 1048576) (hxt : ts.length = kt) (hrt : SeesI w pt ts) (rb : Bool) (rc : Int) (hR : (if turnP ts k then (if dblP N es Ls then (orientB es Ls ts, 0) else (false, 5)) else (false, 2)) = (rb, rc)) :
    Calls Try.prog 22 #[.agg #[.int .i64 N, .slice (some ⟨b, off, none⟩) n c], .slice ps k f, .slice pt kt ft] w fun e' w' => e' = .returned (.tuple #[.bool rb, .int .i64 rc]) ∧ Below w.heap.size w w' := by
  have hn30 : n ≤ 30 := by have := isG_len g; omega
  have Hn := hid hn
  have Hr := hid hr
  have G := hid g
  have Hx := hid hx
  have Hlx := hid hlx
  have Hrx := hid hrx
  have Hxt := hid hxt
  have Hrt := hid hrt
  have GS := hid (show ∀ i, i < k → isSetP n (lI Ls i) from fun i hi => gs i (by rw [hx]; exact hi))
  have GA := hid gs
  have HQ := hid (show setsCode N es Ls = 0 by unfold setsCode; rw [if_pos g, hn, if_pos gs])
  obtain ⟨tb, hTb⟩ : ∃ tb, decide (turnP ts k) = tb := ⟨_, rfl⟩
  obtain ⟨db, hDb⟩ : ∃ db, decide (dblP N es Ls) = db := ⟨_, rfl⟩
  have HTb := hid hTb
  have HDb := hid hDb
  have HR := hid hR
  clear hn hr g hx hlx hrx gs hxt hrt hTb hDb hR
  go_enter Try.func22, Try.ntmps22
  go_wp2_with fail
  refine (iSets_any N (some ⟨b, off, none⟩) ps n c k f es Ls _ (by omega) Hn.out (SeesE.on (.inr ⟨b, off, rfl, Hr.out⟩) (on_alloc _ _)) Hx.out hk9 Hlx.out (Hrx.out.on (on_alloc _ _))).mono ?_
  rw [HQ.out]
  rintro e w3 ⟨rfl, hb3⟩
  have HB3 := hid (bfrom (w := w) (on_alloc _ _) hb3)
  have HX3 := hid ((Box.new w N (some ⟨b, off, none⟩) n c 28).on hb3)
  have hx3 := HX3.out.1
  have hy3 := HX3.out.2
  have hz3 := HX3.out.lt
  clear hb3
  go_wp2_with fail
  refine (iTurns_any pt kt ft k ts _ Hxt.out hkt (Hrt.out.on HB3.out)).mono ?_
  rw [HTb.out]
  rintro e w3' ⟨rfl, rfl⟩
  cases tb
  · obtain ⟨rfl, rfl⟩ : false = rb ∧ (2 : Int) = rc := by have h := HR.out; rw [if_neg (of_decide_eq_false HTb.out)] at h; exact ⟨congrArg Prod.fst h, congrArg Prod.snd h⟩
    go_wp2
    go_ret2
    exact ⟨rfl, HB3.out⟩
  · go_wp2_with fail
    refine (iDouble_any N b off n c k f ps es Ls _ Hn.out (Hr.out.on HB3.out) G.out Hx.out hk9 (Hrx.out.on HB3.out) GS.out).mono ?_
    rw [HDb.out]
    rintro e w4 ⟨rfl, hb4⟩
    have HB4 := hid (bfrom HB3.out hb4)
    have hX4 := HX3.out.on hb4
    have hx4 := hX4.1
    have hy4 := hX4.2
    have hz4 := hX4.lt
    clear hx3 hy3 hz3 hb4 hX4
    cases db
    · obtain ⟨rfl, rfl⟩ : false = rb ∧ (5 : Int) = rc := by have h := HR.out; rw [if_pos (of_decide_eq_true HTb.out), if_neg (of_decide_eq_false HDb.out)] at h; exact ⟨congrArg Prod.fst h, congrArg Prod.snd h⟩
      go_wp2
      go_ret2
      exact ⟨rfl, HB4.out⟩
    · have hd := of_decide_eq_true HDb.out
      have htp := of_decide_eq_true HTb.out
      have hpos := dbl_pos G.out hd
      rw [Hx.out] at hpos
      obtain ⟨lb, lo, rfl, hrl⟩ : ∃ lb lo, ps = some ⟨lb, lo, none⟩ ∧ ReadsL w lb lo Ls := by
        rcases Hrx.out with h | h
        · have := Hx.out; rw [h] at this; simp at this; omega
        · exact h
      have hkk : kt = k := by rw [← Hxt.out]; exact htp.1
      subst hkk
      obtain ⟨tb', tq, rfl, hrq⟩ : ∃ tb' tq, pt = some ⟨tb', tq, none⟩ ∧ ReadsI w tb' tq ts := by
        rcases Hrt.out with h | h
        · have := Hxt.out; rw [h] at this; simp at this; omega
        · exact h
      have HC := hid (show ∀ i, i < kt → CycF N es (lI Ls i) from fun i hi => dbl_cyc G.out (by rw [Hn.out]; exact GA.out) hd i (by rw [Hx.out]; exact hi))
      have HT := hid (show ∀ i, i < kt → 0 ≤ eI ts i ∧ eI ts i ≤ 1 from fun i hi => by have := htp.2 i hi; omega)
      have HD := hid hd
      have HTp := hid htp
      have Hrl := hid hrl
      have Hrq := hid hrq
      clear hd htp hrl hrq
      go_wp2_with fail
      refine (iOriented_any N b off n c lb lo kt f tb' tq ft es Ls ts _ Hn.out (Hr.out.on HB4.out) Hx.out hk9 (Hrl.out.on HB4.out) Hxt.out (Hrq.out.on HB4.out) HC.out HT.out).mono ?_
      obtain ⟨h1, rfl⟩ : orientB es Ls ts = rb ∧ (0 : Int) = rc := by have h := HR.out; rw [if_pos HTp.out, if_pos HD.out] at h; exact ⟨congrArg Prod.fst h, congrArg Prod.snd h⟩
      rw [h1]
      rintro e w5 ⟨rfl, hb5⟩
      have HB5 := hid (bfrom HB4.out hb5)
      clear hb5 h1
      go_wp2
      go_ret2
      exact ⟨rfl, HB5.out⟩

theorem iIsOrientedBy_any (s : Int) (p : Option Addr) (n c : Nat) (es : List (Int × Int)) (ps : Option Addr) (k f : Nat) (Ls : List (List Int)) (pt : Option Addr) (kt ft : Nat) (ts : List Int) (w : World) (hm : n ≤ 1048576) (hn : es.length = n) (hr : SeesE w p es) (hk : k ≤ 1048576) (hx : Ls.length = k) (hlx : ∀ i, i < k → (lI Ls i).length ≤ 1048576) (hrx : SeesL w ps Ls) (hkt : kt ≤ 1048576) (hxt : ts.length = kt) (hrt : SeesI w pt ts) :
    Calls Try.prog 22 #[.agg #[.int .i64 s, .slice p n c], .slice ps k f, .slice pt kt ft] w fun e' w' => e' = .returned (.tuple #[.bool (fIsOrientedBy s es Ls ts).1, .int .i64 (fIsOrientedBy s es Ls ts).2]) ∧ Below w.heap.size w w' := by
  unfold fIsOrientedBy
  by_cases h0 : setsCode s es Ls = 0
  · rw [if_pos h0, hx]
    obtain ⟨g, gs⟩ := setsCode_zero h0
    obtain ⟨b, off, rfl, rd⟩ := isG_sees g hr
    obtain ⟨N, rfl⟩ : ∃ N : Nat, s = N := ⟨_, (Int.toNat_of_nonneg (by have := g.1.1.1; omega)).symm⟩
    rw [Int.toNat_natCast]
    exact iOr_yes N b off n c k f kt ft ps pt es Ls ts w hn rd g hk hx hlx hrx (by rw [← hn]; exact gs) hkt hxt hrt _ _ rfl
  · rw [if_neg h0]
    exact iOr_code s (setsCode s es Ls) p ps pt n c k f kt ft es Ls w hm hn hr hk hx hlx hrx rfl (by simpa using h0)

end Go.Proofs.Ytfdlhdgmbjdhbaa

/- IsOrientedBy in the model. -/
namespace Go.Proofs.Ytfdlhdgmbjdhbaa
open Go.RowKit Go.Lib

/-- What an edge of a cycle adds to its sum. -/
def sgn (es : List (Int × Int)) (S : List Int) (T : Int) (k : Nat) : Int := if fwB es S (eX S k) = decide (T = 0) then 1 else -1
def sgU (es : List (Int × Int)) (S : List Int) (T : Int) (c : List Int) : Nat → List Int
  | 0 => c
  | k + 1 => (sgU es S T c k).set (eX S k) (eI (sgU es S T c k) (eX S k) + sgn es S T k)
def sgL (es : List (Int × Int)) (Ls : List (List Int)) (ts : List Int) : Nat → List Int
  | 0 => List.replicate es.length 0
  | i + 1 => sgU es (lI Ls i) (eI ts i) (sgL es Ls ts i) (lI Ls i).length
theorem sgU_len (es : List (Int × Int)) (S : List Int) (T : Int) (c : List Int) : ∀ k, (sgU es S T c k).length = c.length
  | 0 => rfl
  | k + 1 => by
    show ((sgU es S T c k).set _ _).length = _
    rw [List.length_set, sgU_len es S T c k]
theorem sgL_len (es : List (Int × Int)) (Ls : List (List Int)) (ts : List Int) : ∀ i, (sgL es Ls ts i).length = es.length
  | 0 => by simp [sgL]
  | i + 1 => by
    show (sgU _ _ _ _ _).length = _
    rw [sgU_len, sgL_len es Ls ts i]
theorem sgn_one (es : List (Int × Int)) (S : List Int) (T : Int) (k : Nat) : sgn es S T k = 1 ∨ sgn es S T k = -1 := by
  unfold sgn
  split
  · exact .inl rfl
  · exact .inr rfl
theorem sgU_le {es : List (Int × Int)} {S c : List Int} {T B : Int} (h : ∀ j, -B ≤ eI c j ∧ eI c j ≤ B) : ∀ (k j : Nat), -(B + k) ≤ eI (sgU es S T c k) j ∧ eI (sgU es S T c k) j ≤ B + k
  | 0, j => by have := h j; simpa [sgU] using this
  | k + 1, j => by
    have h1 := sgU_le (es := es) (S := S) (T := T) h k
    have h2 := sgn_one es S T k
    show -(B + ((k + 1 : Nat) : Int)) ≤ eI ((sgU es S T c k).set _ _) j ∧ eI ((sgU es S T c k).set _ _) j ≤ B + ((k + 1 : Nat) : Int)
    by_cases he : eX S k < (sgU es S T c k).length
    · rw [eI_set he]
      split
      · have := h1 (eX S k); omega
      · have := h1 j; omega
    · rw [List.set_eq_of_length_le (by omega)]
      have := h1 j
      omega
theorem sgL_le {es : List (Int × Int)} {Ls : List (List Int)} {ts : List Int} (hl : ∀ i, i < Ls.length → (lI Ls i).length ≤ 30) : ∀ i, i ≤ Ls.length → ∀ j, -(30 * (i : Int)) ≤ eI (sgL es Ls ts i) j ∧ eI (sgL es Ls ts i) j ≤ 30 * (i : Int)
  | 0, _, j => by
    show -(30 * ((0 : Nat) : Int)) ≤ eI (List.replicate es.length 0) j ∧ eI (List.replicate es.length 0) j ≤ _
    have : eI (List.replicate es.length 0) j = 0 := by
      unfold eI
      rw [List.getD_eq_getElem?_getD, List.getElem?_replicate]
      split <;> rfl
    omega
  | i + 1, hi, j => by
    have h1 := sgU_le (es := es) (S := lI Ls i) (T := eI ts i) (sgL_le (es := es) (ts := ts) hl i (by omega)) (lI Ls i).length j
    have h2 := hl i (by omega)
    show _ ≤ eI (sgU _ _ _ _ _) j ∧ eI (sgU _ _ _ _ _) j ≤ _
    omega
theorem sgU_set {es : List (Int × Int)} {xs c : List Int} {T : Int} {e : Nat} (gs : isSetP es.length xs) (hc : c.length = es.length) (_ : e < es.length) : eI (sgU es xs T c xs.length) e = eI c e + (if (e : Int) ∈ xs then (if fwB es xs e = decide (T = 0) then 1 else -1) else 0) := by
  have key : ∀ k, k ≤ xs.length → eI (sgU es xs T c k) e = eI c e + (if (e : Int) ∈ xs.take k then (if fwB es xs e = decide (T = 0) then 1 else -1) else 0) := by
    intro k
    induction k with
    | zero => intro _; simp [sgU]
    | succ k ih =>
      intro hk
      have h1 := ih (by omega)
      have hkk : k < xs.length := by omega
      obtain ⟨hx1, hx2⟩ := eX_at gs hkk
      show eI ((sgU es xs T c k).set (eX xs k) _) e = _
      rw [eI_set (by rw [sgU_len, hc]; exact hx2)]
      have htk : xs.take (k + 1) = xs.take k ++ [eI xs k] := by
        rw [List.take_add_one, List.getElem?_eq_getElem hkk, eI_lt hkk]
        rfl
      by_cases hh : e = eX xs k
      · rw [if_pos hh, ← hh, h1, htk]
        have hnot : ¬ (e : Int) ∈ xs.take k := by
          intro hm
          obtain ⟨i, hi, hie⟩ := List.mem_iff_getElem.1 hm
          rw [List.length_take] at hi
          rw [List.getElem_take] at hie
          have h3 := set_ltO gs (i := i) (j := k) (by omega) hkk
          rw [eI_lt (show i < xs.length by omega), hie] at h3
          omega
        rw [if_neg hnot, if_pos (show (e : Int) ∈ xs.take k ++ [eI xs k] by rw [List.mem_append, List.mem_singleton]; right; omega)]
        unfold sgn
        rw [← hh]
        omega
      · rw [if_neg hh, h1, htk]
        have : ((e : Int) ∈ xs.take k ++ [eI xs k]) ↔ (e : Int) ∈ xs.take k := by
          rw [List.mem_append, List.mem_singleton]
          constructor
          · rintro (h | h)
            · exact h
            · omega
          · exact Or.inl
        simp only [this]
  have h := key xs.length (Nat.le_refl _)
  rwa [List.take_length] at h
theorem sgL_at {es : List (Int × Int)} {Ls : List (List Int)} {ts : List Int} (gs : ∀ i, i < Ls.length → isSetP es.length (lI Ls i)) {e : Nat} (he : e < es.length) : ∀ i, i ≤ Ls.length → eI (sgL es Ls ts i) e = smU es Ls ts e i
  | 0, _ => by
    show eI (List.replicate es.length 0) e = 0
    rw [eI_lt (by simpa using he)]
    simp
  | i + 1, hi => by
    show eI (sgU es (lI Ls i) (eI ts i) (sgL es Ls ts i) (lI Ls i).length) e = smU es Ls ts e i + _
    rw [sgU_set (gs i (by omega)) (sgL_len _ _ _ _) he, sgL_at gs he i (by omega)]

set_option maxRecDepth 100000 in
set_option maxHeartbeats 4000000 in
theorem sOr_code (s q0 : Int) (p ps pt : Option Addr) (n c k f kt ft : Nat) (es : List (Int × Int)) (Ls : List (List Int)) (w : World) (hm : n ≤ 1048576) (hn : es.length = n) (hr : SeesE w p es) (hk9 : k ≤ 1048576) (hx : Ls.length = k) (hlx : ∀ i, i < k → (lI Ls i).length ≤ 1048576) (hrx : SeesL w ps Ls) (hq : setsCode s es Ls = q0) (hne : (q0 != 0) = true) :
    Calls Try.prog 19 #[.agg #[.int .i64 s, .slice p n c], .slice ps k f, .slice pt kt ft] w fun e' w' => e' = .returned (.tuple #[.bool false, .int .i64 q0]) ∧ Below w.heap.size w w' := by
  have Hn := hid hn
  have Hr := hid hr
  have Hx := hid hx
  have Hlx := hid hlx
  have Hrx := hid hrx
  have HQ := hid hq
  clear hn hr hx hlx hrx hq
  go_enter Try.func19, Try.ntmps19
  go_wp2_with fail
  refine (sLists_any s p ps n c k f es Ls _ hm Hn.out (Hr.out.on (on_alloc _ _)) Hx.out hk9 Hlx.out (Hrx.out.on (on_alloc _ _))).mono ?_
  rw [HQ.out]
  rintro e w2 ⟨rfl, hb2⟩
  have HB2 := hid (bfrom (w := w) (on_alloc _ _) hb2)
  clear hb2
  go_wp2
  go_ret2
  exact ⟨rfl, HB2.out⟩

set_option maxRecDepth 100000 in
set_option maxHeartbeats 16000000 in
theorem sOr_yes (N : Nat) (b off n c k f kt ft : Nat) (ps pt : Option Addr) (es : List (Int × Int)) (Ls : List (List Int)) (ts : List Int) (w : World) (hn : es.length = n) (hr : ReadsE w b off es) (g : IsG N es) (hk9 : k ≤ 1048576) (hx : Ls.length = k) (hlx : ∀ i, i < k → (lI Ls i).length ≤ 1048576) (hrx : SeesL w ps Ls) (gs : areSetsP n Ls) (hkt : kt ≤ 1048576) (hxt : ts.length = kt) (hrt : SeesI w pt ts) (rb : Bool) (rc : Int) (hR : (if turnP ts k then (if dblP N es Ls then (orientB es Ls ts, 0) else (false, 5)) else (false, 2)) = (rb, rc)) :
    Calls Try.prog 19 #[.agg #[.int .i64 N, .slice (some ⟨b, off, none⟩) n c], .slice ps k f, .slice pt kt ft] w fun e' w' => e' = .returned (.tuple #[.bool rb, .int .i64 rc]) ∧ Below w.heap.size w w' := by
  have hn30 : n ≤ 30 := by have := isG_len g; omega
  have Hn := hid hn
  have Hr := hid hr
  have G := hid g
  have Hx := hid hx
  have Hlx := hid hlx
  have Hrx := hid hrx
  have Hxt := hid hxt
  have Hrt := hid hrt
  have GS := hid (show ∀ i, i < k → isSetP n (lI Ls i) from fun i hi => gs i (by rw [hx]; exact hi))
  have GA := hid gs
  have HQ := hid (show setsCode N es Ls = 0 by unfold setsCode; rw [if_pos g, hn, if_pos gs])
  have HR := hid hR
  have hbl : b < w.heap.size := reads_lt hr (by have := g.1.1.2.2.2; have := g.1.1.1; omega)
  obtain ⟨j0, hj, hy0, hy1, hy2⟩ := info_parts infoInt
  have hmk0 : ∀ w', (Instr.makeSlice 41 (.int .i64 n) (.int .i64 n)).run Try.prog w' = .ok (.slice (some ⟨w'.heap.size, 0, none⟩) n n) (w'.alloc (.cells (madeCells (Value.int .i64 0).cells (n * 1)) 2)) := fun w' => by
    have h := run_makeSlice (P := Try.prog) w' 41 2 j0 (.int .i64 0) Try.underlying41 hj hy0 .i64 .i64 n n (by omega) (Int.le_refl _) (by rw [hy1]; omega) (by rw [hy2]; omega) (by omega)
    rw [hy1] at h
    simpa using h
  obtain ⟨ZC, hZC⟩ : ∃ ZC, ZC = madeCells (Value.int .i64 0).cells (n * 1) := ⟨_, rfl⟩
  have hmk : ∀ w', (Instr.makeSlice 41 (.int .i64 n) (.int .i64 n)).run Try.prog w' = .ok (.slice (some ⟨w'.heap.size, 0, none⟩) n n) (w'.alloc (.cells ZC 2)) := by rw [hZC]; exact hmk0
  have HMk := hid hmk
  have HZC := hid hZC
  clear hn hr g hx hlx hrx gs hxt hrt hR hj hmk0 hZC hmk
  go_enter Try.func19, Try.ntmps19
  go_wp2_with fail
  refine (sLists_any N (some ⟨b, off, none⟩) ps n c k f es Ls _ (by omega) Hn.out (SeesE.on (.inr ⟨b, off, rfl, Hr.out⟩) (on_alloc _ _)) Hx.out hk9 Hlx.out (Hrx.out.on (on_alloc _ _))).mono ?_
  rw [HQ.out]
  rintro e w3 ⟨rfl, hb3⟩
  have HB3 := hid (bfrom (w := w) (on_alloc _ _) hb3)
  have HX3 := hid ((Box.new w N (some ⟨b, off, none⟩) n c 28).on hb3)
  clear hb3
  by_cases hkk : kt = k
  · subst hkk
    have t1 : ((kt : Int) != (kt : Int)) = false := by simp
    go_wp2_with fail
    go_loopw [9] (fun u wr => ∃ j : Nat, j ≤ kt ∧ u = .int .i64 j ∧ Hid (∀ a, a < j → 0 ≤ eI ts a ∧ eI ts a < 2) ∧ w3 = wr) (fun u _ => kt - (intOf u).toNat)
    case atStart => exact ⟨0, Nat.zero_le _, rfl, hid (fun a ha => absurd ha (by omega)), rfl⟩
    case round =>
      obtain ⟨j, hj, rfl, hT, rfl⟩ := hrel
      by_cases hlt : j < kt
      · have hlt' : (j : Int) < (kt : Int) := by omega
        obtain ⟨tb', tq, rfl, hrq⟩ : ∃ tb' tq, pt = some ⟨tb', tq, none⟩ ∧ ReadsI w tb' tq ts := by
          rcases Hrt.out with h | h
          · have := Hxt.out; rw [h] at this; simp at this; omega
          · exact h
        have hce := (hrq.on HB3.out) j (by rw [Hxt.out]; exact hlt)
        obtain ⟨T, hT0⟩ : ∃ T, eI ts j = T := ⟨_, rfl⟩
        rw [hT0] at hce
        have htl := World.block_lt_of_cell? w3 _ hce
        dsimp only at htl
        have HT0 := hid hT0
        have HJ := hid hlt
        clear hrq hT0
        by_cases hv : 0 ≤ T ∧ T < 2
        · have Hv := hid (show (0 : Int) ≤ T ∧ T ≤ 1 by omega)
          have Hv2 := hid hv
          clear hv
          go_wp2_with (go_at_call 55; refine (sIn_yes _ _ _ _ Hv.out).mono ?_; rintro e' w' ⟨rfl, rfl⟩)
          go_roundw
          case rel => exact ⟨j + 1, by have := HJ.out; omega, by go_num, hid (fun a ha => by
            by_cases h : a = j
            · subst h; rw [HT0.out]; exact Hv2.out
            · exact hT.out a (by omega)), by first | rfl | trivial⟩
          case measure => have := HJ.out; simp [intOf]; omega
        · have Hv := hid (show T < 0 ∨ (1 : Int) < T by omega)
          obtain ⟨rfl, rfl⟩ : false = rb ∧ (2 : Int) = rc := by
            have h := HR.out
            rw [if_neg (fun h2 : turnP ts kt => hv (by have h3 := h2.2 j hlt; rwa [HT0.out] at h3))] at h
            exact ⟨congrArg Prod.fst h, congrArg Prod.snd h⟩
          clear hv
          go_wp2_with (go_at_call 55; refine (sIn_no _ _ _ _ Hv.out).mono ?_; rintro e' w' ⟨rfl, rfl⟩)
          go_ret2
          exact ⟨rfl, HB3.out⟩
      · obtain rfl : j = kt := by omega
        have HTp := hid (show turnP ts j from ⟨Hxt.out, hT.out⟩)
        have hx3 := HX3.out.1
        have hy3 := HX3.out.2
        have hz3 := HX3.out.lt
        obtain ⟨db, hDb⟩ : ∃ db, decide (dblP N es Ls) = db := ⟨_, rfl⟩
        have HDb := hid hDb
        clear hDb
        go_wp2_with fail
        refine (sDouble_any N b off n c j f ps es Ls _ Hn.out (Hr.out.on HB3.out) G.out Hx.out hk9 (Hrx.out.on HB3.out) GS.out).mono ?_
        rw [HDb.out]
        rintro e w4 ⟨rfl, hb4⟩
        have HB4 := hid (bfrom HB3.out hb4)
        have HX4 := hid (HX3.out.on hb4)
        clear hx3 hy3 hz3 hb4
        cases db
        · obtain ⟨rfl, rfl⟩ : false = rb ∧ (5 : Int) = rc := by have h := HR.out; rw [if_pos HTp.out, if_neg (of_decide_eq_false HDb.out)] at h; exact ⟨congrArg Prod.fst h, congrArg Prod.snd h⟩
          go_wp2
          go_ret2
          exact ⟨rfl, HB4.out⟩
        · have hd := of_decide_eq_true HDb.out
          obtain ⟨hRb, rfl⟩ : orientB es Ls ts = rb ∧ (0 : Int) = rc := by have h := HR.out; rw [if_pos HTp.out, if_pos hd] at h; exact ⟨congrArg Prod.fst h, congrArg Prod.snd h⟩
          have hpos := dbl_pos G.out hd
          rw [Hx.out] at hpos
          obtain ⟨lb, lo, rfl, hrl⟩ : ∃ lb lo, ps = some ⟨lb, lo, none⟩ ∧ ReadsL w lb lo Ls := by
            rcases Hrx.out with h | h
            · have := Hx.out; rw [h] at this; simp at this; omega
            · exact h
          obtain ⟨tb', tq, rfl, hrq⟩ : ∃ tb' tq, pt = some ⟨tb', tq, none⟩ ∧ ReadsI w tb' tq ts := by
            rcases Hrt.out with h | h
            · have := Hxt.out; rw [h] at this; simp at this; omega
            · exact h
          have hCy := dbl_cyc G.out (by rw [Hn.out]; exact GA.out) hd
          have HC := hid (show ∀ i, i < j → CycF N es (lI Ls i) from fun i hi => hCy i (by rw [Hx.out]; exact hi))
          have HIf := hid (orient_iff (ts := ts) hCy (fun i hi => by have := HTp.out.2 i (by rw [← Hx.out]; exact hi); omega) hd.2)
          have HL30 := hid (show ∀ i, i < Ls.length → (lI Ls i).length ≤ 30 from fun i hi => by
            have h1 := set_len (GS.out i (by rw [← Hx.out]; exact hi))
            omega)
          have HSg := hid (show ∀ e, e < es.length → eI (sgL es Ls ts Ls.length) e = smU es Ls ts e Ls.length from fun e he => sgL_at (fun i hi => (hCy i hi).gs) he _ (Nat.le_refl _))
          have HRb := hid hRb
          have Hrl := hid hrl
          have Hrq := hid hrq
          have hx4 := HX4.out.1
          have hy4 := HX4.out.2
          have hz4 := HX4.out.lt
          have hmk := HMk.out
          have e0 : IntKind.i64.wrap (n : Int) = (n : Int) := IntWalk.i64_in _ (by omega)
          clear hd hRb hpos hrl hrq hCy
          go_wp2_with fail
          clear hmk
          obtain ⟨w5, hw5⟩ : ∃ w5, w5 = w4.alloc (.cells ZC 2) := ⟨_, rfl⟩
          have HO5 := hid (show OwnI w5 w4.heap.size n (sgL es Ls ts 0) by
            rw [hw5, show sgL es Ls ts 0 = List.replicate es.length 0 from rfl, Hn.out]
            exact own_zerosD w4 _ n HZC.out rfl hn30)
          have HB5 := hid (show Below w.heap.size w w5 by rw [hw5]; exact bfrom HB4.out (on_alloc _ _))
          have HX5 := hid (show Box w5 w.heap.size N (some ⟨b, off, none⟩) n c by rw [hw5]; exact HX4.out.on (on_alloc _ _))
          obtain ⟨gs, hgs⟩ : ∃ gs, w4.heap.size = gs := ⟨_, rfl⟩
          have hgs1 : w.heap.size < gs := by rw [← hgs]; exact hz4
          rw [← hw5]
          rw [hgs] at HO5 ⊢
          clear hw5 hgs hx4 hy4 hz4
          go_loopw [11] (fun u wr => ∃ i : Nat, i ≤ j ∧ u = .int .i64 i ∧ Hid (OwnI wr gs n (sgL es Ls ts i)) ∧ Hid (Below w.heap.size w wr) ∧ Hid (Box wr w.heap.size N (some ⟨b, off, none⟩) n c)) (fun u _ => j - (intOf u).toNat)
          case atStart => exact ⟨0, Nat.zero_le _, rfl, HO5, HB5, HX5⟩
          case round =>
            clear HO5 HB5 HX5
            obtain ⟨i, hi, rfl, hO, hB, hX⟩ := hrel
            obtain ⟨wo, rfl⟩ : ∃ wo : World, wo = wr := ⟨_, rfl⟩
            by_cases hij : i < j
            · have hij' : (i : Int) < (j : Int) := by omega
              have C := HC.out i hij
              obtain ⟨q, fq, hcq, hsq⟩ := Hrl.out i (by rw [Hx.out]; exact hij)
              have hlbw : lb < w.heap.size := World.block_lt_of_cell? w _ hcq
              obtain ⟨xs, hxs⟩ : ∃ xs, lI Ls i = xs := ⟨_, rfl⟩
              rw [hxs] at C hcq hsq
              obtain ⟨sb, so, rfl, hrd⟩ : ∃ sb so, q = some ⟨sb, so, none⟩ ∧ ReadsI w sb so xs := by
                rcases hsq with h | h
                · have := C.pos; rw [h] at this; simp at this
                · exact h
              obtain ⟨l, hl⟩ : ∃ l, xs.length = l := ⟨_, rfl⟩
              rw [hl] at hcq
              have hl30 : l ≤ 30 := by rw [← hl]; have h1 := set_len C.gs; have h2 := isG_len C.g; omega
              have hsbw : sb < w.heap.size := hrd.lt C.pos
              have HCx := hid C
              have HXs := hid hxs
              have Hl := hid hl
              have Hrd := hid hrd
              have HCq := hid (fun (W : World) (hW : Below w.heap.size w W) => (show W.cell? ⟨lb, lo + i, none⟩ = some (.slice (some ⟨sb, so, none⟩) l fq) from (hW.cell (p := ⟨lb, lo + i, none⟩) hlbw).trans hcq))
              have hc1 := HCq.out wo hB.out
              have hlb1 : lb < wo.heap.size := Nat.lt_of_lt_of_le hlbw hB.out.size
              have hx1 := hX.out.1
              have hx2 := hX.out.2
              have hxl := hX.out.lt
              have hTe := Hrq.out i (by rw [Hxt.out]; exact hij)
              obtain ⟨T, hT0⟩ : ∃ T, eI ts i = T := ⟨_, rfl⟩
              rw [hT0] at hTe
              have HT0 := hid hT0
              have htbw : tb' < w.heap.size := World.block_lt_of_cell? w _ hTe
              have HTe := hid (fun (W : World) (hW : Below w.heap.size w W) => (show W.cell? ⟨tb', tq + i, none⟩ = some (.int .i64 T) from (hW.cell (p := ⟨tb', tq + i, none⟩) htbw).trans hTe))
              clear C hcq hsq hxs hl hrd hTe hT0
              go_wp2
              go_still_tail 5, (by kernel_rfl)
              go_wp2_with fail
              refine (sForward_any N b off n c sb so l fq es xs _ Hn.out (Hr.out.on (bfrom hB.out (Below.refl _ _).drew)) HCx.out Hl.out (Hrd.out.on (bfrom hB.out (Below.refl _ _).drew))).mono ?_
              rintro e w6 ⟨gf, rfl, hgf, hof, hb6⟩
              have HB6' := hid (show Below wo.heap.size wo w6 from ⟨hb6.os, hb6.tape, hb6.output, hb6.size, hb6.block⟩)
              have HO6 := hid (hO.out.on HB6'.out)
              have HB6 := hid (bfrom hB.out HB6'.out)
              have HX6 := hid (hX.out.on HB6'.out)
              have HF6 := hid hof
              have hgf' : wo.heap.size ≤ gf := hgf
              have hgsl : gs < wo.heap.size := hO.out.lt
              have hgfs : gf ≠ gs := by omega
              clear hb6 hof hc1 hx1 hx2 hgf
              go_wp2
              go_loopw [13] (fun u wr => ∃ a : Nat, a ≤ l ∧ u = .int .i64 a ∧ Hid (OwnI wr gs n (sgU es xs T (sgL es Ls ts i) a)) ∧ Hid (OwnB wr gf l (fwR es xs)) ∧ Hid (Below w.heap.size w wr) ∧ Hid (Box wr w.heap.size N (some ⟨b, off, none⟩) n c)) (fun u _ => l - (intOf u).toNat)
              case atStart => exact ⟨0, Nat.zero_le _, rfl, HO6, HF6, HB6, HX6⟩
              case round =>
                clear HO6 HF6 HB6 HX6
                obtain ⟨a, ha, rfl, hOa, hFa, hBa, hXa⟩ := hrel
                obtain ⟨wi, rfl⟩ : ∃ wi : World, wi = wr := ⟨_, rfl⟩
                have hc1 := HCq.out wi hBa.out
                have hlb1 : lb < wi.heap.size := Nat.lt_of_lt_of_le hlbw hBa.out.size
                by_cases hal : a < l
                · have hal' : (a : Int) < (l : Int) := by omega
                  have hax : a < xs.length := by rw [Hl.out]; exact hal
                  obtain ⟨hF1, hF2⟩ := eX_at HCx.out.gs hax
                  obtain ⟨F, hF⟩ : ∃ F, eX xs a = F := ⟨_, rfl⟩
                  rw [hF] at hF1 hF2
                  have hFn : F < n := by rw [Hn.out] at hF2; exact hF2
                  have hFn' : (F : Int) < (n : Int) := by omega
                  have hce := (Hrd.out.on hBa.out) a hax
                  rw [hF1] at hce
                  have hsb1 : sb < wi.heap.size := Nat.lt_of_lt_of_le hsbw hBa.out.size
                  have hct := HTe.out wi hBa.out
                  have htb1 : tb' < wi.heap.size := Nat.lt_of_lt_of_le htbw hBa.out.size
                  have hcf := hFa.out.cell (i := a) (by rw [fwR_len]; exact hax)
                  rw [fwR_at hax, hF] at hcf
                  have hgf1 := hFa.out.lt
                  have hlen : (sgU es xs T (sgL es Ls ts i) a).length = n := by rw [sgU_len, sgL_len, Hn.out]
                  have hcs := hOa.out.reads F (by omega)
                  rw [Nat.zero_add] at hcs
                  have hfs := hOa.out.free F
                  have hgs2 := hOa.out.lt
                  have hbd := sgU_le (es := es) (S := xs) (T := T) (sgL_le (es := es) (ts := ts) HL30.out i (by rw [Hx.out]; omega)) a F
                  obtain ⟨X, hX1⟩ : ∃ X, eI (sgU es xs T (sgL es Ls ts i) a) F = X := ⟨_, rfl⟩
                  rw [hX1] at hcs hbd
                  have hw1 : IntKind.i64.wrap (X + 1) = X + 1 := IntWalk.i64_in _ (by omega)
                  have hw2 : IntKind.i64.wrap (X - 1) = X - 1 := IntWalk.i64_in _ (by omega)
                  obtain ⟨fb, hfb⟩ : ∃ fb, fwB es xs F = fb := ⟨_, rfl⟩
                  rw [hfb] at hcf
                  have HST := hid (show sgU es xs T (sgL es Ls ts i) (a + 1) = (sgU es xs T (sgL es Ls ts i) a).set F (X + (if fb = decide (T = 0) then 1 else -1)) by
                    show (sgU es xs T (sgL es Ls ts i) a).set (eX xs a) (eI (sgU es xs T (sgL es Ls ts i) a) (eX xs a) + sgn es xs T a) = _
                    unfold sgn
                    rw [hF, hX1, hfb])
                  have HLn := hid hlen
                  have HAL := hid hal
                  have HGo := hid (fun (Z : Int) (hZ : Z = X + (if fb = decide (T = 0) then 1 else -1)) (nq : Nat) => (show OwnI ((wi.drewN nq).setCell ⟨gs, F, none⟩ (.int .i64 Z)) gs n (sgU es xs T (sgL es Ls ts i) (a + 1)) ∧ OwnB ((wi.drewN nq).setCell ⟨gs, F, none⟩ (.int .i64 Z)) gf l (fwR es xs) ∧ Below w.heap.size w ((wi.drewN nq).setCell ⟨gs, F, none⟩ (.int .i64 Z)) ∧ Box ((wi.drewN nq).setCell ⟨gs, F, none⟩ (.int .i64 Z)) w.heap.size N (some ⟨b, off, none⟩) n c from
                    ⟨by rw [HST.out, ← hZ]; exact (show OwnI (wi.drewN nq) gs n _ from hOa.out.keep rfl).set (by rw [HLn.out]; exact hFn) _, (show OwnB (wi.drewN nq) gf l _ from hFa.out.keep rfl).far (by show gf ≠ gs; exact hgfs) _, (show Below w.heap.size w (wi.drewN nq) from bdn.mpr hBa.out).setCell (p := ⟨gs, F, none⟩) (by show w.heap.size ≤ gs; omega) _, (show Box (wi.drewN nq) w.heap.size N (some ⟨b, off, none⟩) n c from hXa.out.same rfl).same (heap_setCell_other _ ⟨gs, F, none⟩ w.heap.size _ (by show w.heap.size ≠ gs; omega))⟩))
                  clear hF hF1 hF2 hbd hX1 hfb hlen hOa hFa hBa hXa hax hal
                  by_cases hT2 : T = 0
                  · have t2 : (T == 0) = true := by simpa using hT2
                    cases fb
                    · have HG1 := hid (fun nq => HGo.out (X - 1) (by rw [decide_eq_true hT2, if_neg (by simp)]; omega) nq)
                      clear HGo
                      go_wp2
                      go_quiet (fail)
                      go_wp2
                      go_roundw
                      case rel => exact ⟨a + 1, by have := HAL.out; omega, by go_num, hid (HG1.out _).1, hid (HG1.out _).2.1, hid (HG1.out _).2.2.1, hid (HG1.out _).2.2.2⟩
                      case measure => have := HAL.out; simp [intOf]; omega
                    · have HG1 := hid (fun nq => HGo.out (X + 1) (by rw [decide_eq_true hT2, if_pos rfl]) nq)
                      clear HGo
                      go_wp2
                      go_quiet (fail)
                      go_wp2
                      go_roundw
                      case rel => exact ⟨a + 1, by have := HAL.out; omega, by go_num, hid (HG1.out _).1, hid (HG1.out _).2.1, hid (HG1.out _).2.2.1, hid (HG1.out _).2.2.2⟩
                      case measure => have := HAL.out; simp [intOf]; omega
                  · have t2 : (T == 0) = false := by simpa using hT2
                    cases fb
                    · have HG1 := hid (fun nq => HGo.out (X + 1) (by rw [decide_eq_false hT2, if_pos rfl]) nq)
                      clear HGo
                      go_wp2
                      go_quiet (fail)
                      go_wp2
                      go_roundw
                      case rel => exact ⟨a + 1, by have := HAL.out; omega, by go_num, hid (HG1.out _).1, hid (HG1.out _).2.1, hid (HG1.out _).2.2.1, hid (HG1.out _).2.2.2⟩
                      case measure => have := HAL.out; simp [intOf]; omega
                    · have HG1 := hid (fun nq => HGo.out (X - 1) (by rw [decide_eq_false hT2, if_neg (by simp)]; omega) nq)
                      clear HGo
                      go_wp2
                      go_quiet (fail)
                      go_wp2
                      go_roundw
                      case rel => exact ⟨a + 1, by have := HAL.out; omega, by go_num, hid (HG1.out _).1, hid (HG1.out _).2.1, hid (HG1.out _).2.2.1, hid (HG1.out _).2.2.2⟩
                      case measure => have := HAL.out; simp [intOf]; omega
                · have hla := hid (show a = l by omega)
                  have HIJ := hid hij
                  clear hij
                  go_wp2
                  go_roundw
                  case rel => exact ⟨i + 1, by have := HIJ.out; omega, by go_num, hid (by
                    show OwnI wi gs n (sgU es (lI Ls i) (eI ts i) (sgL es Ls ts i) (lI Ls i).length)
                    rw [HXs.out, HT0.out, Hl.out, ← hla.out]
                    exact hOa.out), hBa, hXa⟩
                  case measure => have := HIJ.out; simp [intOf]; omega
            · obtain rfl : i = j := by omega
              have hlen : (sgL es Ls ts i).length = n := by rw [sgL_len, Hn.out]
              go_wp2
              go_loopw [14] (fun u wx => ∃ a : Nat, a ≤ n ∧ u = .int .i64 a ∧ Hid (∀ e, e < a → eI (sgL es Ls ts i) e = 0) ∧ wo = wx) (fun u _ => n - (intOf u).toNat)
              case atStart => exact ⟨0, Nat.zero_le _, rfl, hid (fun e he => absurd he (by omega)), rfl⟩
              case round =>
                obtain ⟨a, ha, rfl, hZ, rfl⟩ := hrel
                by_cases hal : a < n
                · have hal' : (a : Int) < (n : Int) := by omega
                  have hcE := hO.out.reads a (by omega)
                  rw [Nat.zero_add] at hcE
                  have hgz := hO.out.lt
                  obtain ⟨X, hX1⟩ : ∃ X, eI (sgL es Ls ts i) a = X := ⟨_, rfl⟩
                  rw [hX1] at hcE
                  have HX1 := hid hX1
                  have HAL := hid hal
                  clear hX1 hal
                  by_cases hx0 : X = 0
                  · have t2 : (X != 0) = false := by simpa using hx0
                    have HX0 := hid hx0
                    clear hx0
                    go_wp2
                    go_roundw
                    case rel => exact ⟨a + 1, by have := HAL.out; omega, by go_num, hid (fun e he => by
                      by_cases h : e = a
                      · subst h; rw [HX1.out]; exact HX0.out
                      · exact hZ.out e (by omega)), by first | rfl | trivial⟩
                    case measure => have := HAL.out; simp [intOf]; omega
                  · have t2 : (X != 0) = true := by simpa using hx0
                    obtain rfl : rb = false := by
                      rw [← HRb.out]
                      cases hob : orientB es Ls ts
                      · rfl
                      · have h1 := HIf.out.2 hob a (by rw [Hn.out]; exact HAL.out)
                        rw [← HSg.out a (by rw [Hn.out]; exact HAL.out), Hx.out, HX1.out] at h1
                        exact absurd h1 hx0
                    clear hx0
                    go_wp2
                    go_ret2
                    exact ⟨rfl, hB.out⟩
                · obtain rfl : a = n := by omega
                  obtain rfl : rb = true := by
                    rw [← HRb.out]
                    refine HIf.out.1 (fun e he => ?_)
                    rw [← HSg.out e he, Hx.out]
                    exact hZ.out e (by rw [← Hn.out]; exact he)
                  go_wp2
                  go_ret2
                  exact ⟨rfl, hB.out⟩
  · have t1 : ((kt : Int) != (k : Int)) = true := by simp; omega
    obtain ⟨rfl, rfl⟩ : false = rb ∧ (2 : Int) = rc := by
      have h := HR.out
      rw [if_neg (fun h2 : turnP ts k => hkk (by rw [← Hxt.out]; exact h2.1))] at h
      exact ⟨congrArg Prod.fst h, congrArg Prod.snd h⟩
    go_wp2
    go_ret2
    exact ⟨rfl, HB3.out⟩

theorem sIsOrientedBy_any (s : Int) (p : Option Addr) (n c : Nat) (es : List (Int × Int)) (ps : Option Addr) (k f : Nat) (Ls : List (List Int)) (pt : Option Addr) (kt ft : Nat) (ts : List Int) (w : World) (hm : n ≤ 1048576) (hn : es.length = n) (hr : SeesE w p es) (hk : k ≤ 1048576) (hx : Ls.length = k) (hlx : ∀ i, i < k → (lI Ls i).length ≤ 1048576) (hrx : SeesL w ps Ls) (hkt : kt ≤ 1048576) (hxt : ts.length = kt) (hrt : SeesI w pt ts) :
    Calls Try.prog 19 #[.agg #[.int .i64 s, .slice p n c], .slice ps k f, .slice pt kt ft] w fun e' w' => e' = .returned (.tuple #[.bool (fIsOrientedBy s es Ls ts).1, .int .i64 (fIsOrientedBy s es Ls ts).2]) ∧ Below w.heap.size w w' := by
  unfold fIsOrientedBy
  by_cases h0 : setsCode s es Ls = 0
  · rw [if_pos h0, hx]
    obtain ⟨g, gs⟩ := setsCode_zero h0
    obtain ⟨b, off, rfl, rd⟩ := isG_sees g hr
    obtain ⟨N, rfl⟩ : ∃ N : Nat, s = N := ⟨_, (Int.toNat_of_nonneg (by have := g.1.1.1; omega)).symm⟩
    rw [Int.toNat_natCast]
    exact sOr_yes N b off n c k f kt ft ps pt es Ls ts w hn rd g hk hx hlx hrx (by rw [← hn]; exact gs) hkt hxt hrt _ _ rfl
  · rw [if_neg h0]
    exact sOr_code s (setsCode s es Ls) p ps pt n c k f kt ft es Ls w hm hn hr hk hx hlx hrx rfl (by simpa using h0)

end Go.Proofs.Ytfdlhdgmbjdhbaa

namespace Go.Proofs.Ytfdlhdgmbjdhbaa
open Go.RowKit

set_option maxRecDepth 100000 in
set_option maxHeartbeats 8000000 in
theorem lawIsOrientedBy_big2 (s0 : Int) (p0 : Option Addr) (n0 c0 : Nat) (p1 : Option Addr) (n1 c1 : Nat) (p2 : Option Addr) (n2 c2 : Nat) (w : World) (m2 : n2 ≤ 9223372036854775807) (b2 : 1048576 < n2) :
    Calls Try.prog 5 #[.agg #[.int .i64 s0, .slice p0 n0 c0], .slice p1 n1 c1, .slice p2 n2 c2] w fun e' w' => e' = .returned (.bool true) ∧ Below w.heap.size w w' := by
  go_enter Try.func5, Try.ntmps5
  go_wp2_with fail
  go_ret
  exact ⟨rfl, by go_grown⟩

set_option maxRecDepth 100000 in
set_option maxHeartbeats 8000000 in
theorem lawIsOrientedBy_big0 (s0 : Int) (p0 : Option Addr) (n0 c0 : Nat) (p1 : Option Addr) (n1 c1 : Nat) (p2 : Option Addr) (n2 c2 : Nat) (w : World) (m2 : n2 ≤ 9223372036854775807) (m0 : n0 ≤ 9223372036854775807) (b2 : n2 ≤ 1048576) (bg : 1048576 < n0) :
    Calls Try.prog 5 #[.agg #[.int .i64 s0, .slice p0 n0 c0], .slice p1 n1 c1, .slice p2 n2 c2] w fun e' w' => e' = .returned (.bool true) ∧ Below w.heap.size w w' := by
  have BG := hid bg
  clear bg
  go_enter Try.func5, Try.ntmps5
  go_wp2_with fail
  refine (szGraph_any _ _ _ _ _ _ m0 (by omega) (by omega)).mono ?_
  rw [if_pos (by have := BG.out; omega)]
  rintro e' w2 ⟨rfl, hb2⟩
  have hB2 := bfrom (w := w) (by go_grown) hb2
  go_wp2
  go_ret
  exact ⟨rfl, hB2⟩

set_option maxRecDepth 100000 in
set_option maxHeartbeats 8000000 in
theorem lawIsOrientedBy_bigL (s0 : Int) (p0 : Option Addr) (n0 c0 : Nat) (p1 : Option Addr) (n1 c1 : Nat) (p2 : Option Addr) (n2 c2 : Nat) (es1 : List (List Int)) (w : World) (m2 : n2 ≤ 9223372036854775807) (b2 : n2 ≤ 1048576) (m0 : n0 ≤ 1048576) (hn1 : es1.length = n1) (m1 : n1 ≤ 9223372036854775807) (hrow : ∀ i, i < n1 → (lI es1 i).length ≤ 9223372036854775807) (hr1 : SeesL w p1 es1) (hno : ¬ ((n1 : Int) + (sumLL es1 n1 : Int) ≤ 1048576 - n0)) :
    Calls Try.prog 5 #[.agg #[.int .i64 s0, .slice p0 n0 c0], .slice p1 n1 c1, .slice p2 n2 c2] w fun e' w' => e' = .returned (.bool true) ∧ Below w.heap.size w w' := by
  have hge0 : ¬ ((1048576 : Int) - n0 < 0) := by omega
  have Hn1 := hid hn1
  have Hrow := hid hrow
  have Hr1 := hid hr1
  have HNO := hid hno
  clear hn1 hrow hr1 hno
  go_enter Try.func5, Try.ntmps5
  go_wp2_with fail
  refine (szGraph_any _ _ _ _ _ _ (by omega) (by omega) (by omega)).mono ?_
  rw [if_neg (by omega)]
  rintro e' w2 ⟨rfl, hb2⟩
  have HB2 := hid (bfrom (w := w) (on_alloc _ _) hb2)
  clear hb2
  go_wp2_with fail
  refine (szLists_any p1 c1 n1 (1048576 - n0) es1 _ (by omega) (by omega) m1 Hn1.out Hrow.out (Hr1.out.on HB2.out)).mono ?_
  rintro e' w9 ⟨⟨z, rfl, hz⟩, rfl⟩
  have hz0 : z < 0 := by have := HNO.out; omega
  clear hz
  go_wp2
  go_ret
  exact ⟨rfl, HB2.out⟩

set_option maxRecDepth 100000 in
set_option maxHeartbeats 8000000 in
theorem lawIsOrientedBy_small (s0 : Int) (p0 : Option Addr) (n0 c0 : Nat) (es0 : List (Int × Int)) (p1 : Option Addr) (n1 c1 : Nat) (es1 : List (List Int)) (p2 : Option Addr) (n2 c2 : Nat) (es2 : List Int) (w : World) (hn0 : es0.length = n0) (hm0 : n0 ≤ 1048576) (hr0 : SeesE w p0 es0) (hn1 : es1.length = n1) (hm1 : n1 ≤ 1048576) (hrow1 : ∀ i, i < n1 → (lI es1 i).length ≤ 1048576) (hr1 : SeesL w p1 es1) (hn2 : es2.length = n2) (hm2 : n2 ≤ 1048576) (hr2 : SeesI w p2 es2) (hfit : (n1 : Int) + (sumLL es1 n1 : Int) ≤ 1048576 - n0) :
    Calls Try.prog 5 #[.agg #[.int .i64 s0, .slice p0 n0 c0], .slice p1 n1 c1, .slice p2 n2 c2] w fun e' w' => e' = .returned (.bool true) ∧ Below w.heap.size w w' := by
  have hq0 : n0 ≤ 9223372036854775807 := by omega
  have hq1 : n1 ≤ 9223372036854775807 := by omega
  have hq2 : n2 ≤ 9223372036854775807 := by omega
  have hge0 : ¬ ((1048576 : Int) - n0 < 0) := by omega
  have Hn0 := hid hn0
  have Hm0 := hid hm0
  have Hr0 := hid hr0
  have Hn1 := hid hn1
  have Hm1 := hid hm1
  have Hr1 := hid hr1
  have Hrow1 := hid hrow1
  have HFit := hid hfit
  have Hn2 := hid hn2
  have Hm2 := hid hm2
  have Hr2 := hid hr2
  obtain ⟨r0, cd, hR⟩ : ∃ r0 cd, fIsOrientedBy s0 es0 es1 es2 = (r0, cd) := ⟨_, _, rfl⟩
  have hne1 : (r0 != r0) = false := by simp
  have hne0 : (cd != cd) = false := by simp
  have hS := fun (q0 : Option Addr) (cc0 : Nat) (q1 : Option Addr) (cc1 : Nat) (q2 : Option Addr) (cc2 : Nat) (ww : World) (hh0 : SeesE ww q0 es0) (hh1 : SeesL ww q1 es1) (hh2 : SeesI ww q2 es2) => sIsOrientedBy_any s0 q0 n0 cc0 es0 q1 n1 cc1 es1 q2 n2 cc2 es2 ww hm0 hn0 hh0 hm1 hn1 hrow1 hh1 hm2 hn2 hh2
  have hI := fun (q0 : Option Addr) (cc0 : Nat) (q1 : Option Addr) (cc1 : Nat) (q2 : Option Addr) (cc2 : Nat) (ww : World) (hh0 : SeesE ww q0 es0) (hh1 : SeesL ww q1 es1) (hh2 : SeesI ww q2 es2) => iIsOrientedBy_any s0 q0 n0 cc0 es0 q1 n1 cc1 es1 q2 n2 cc2 es2 ww hm0 hn0 hh0 hm1 hn1 hrow1 hh1 hm2 hn2 hh2
  rw [hR] at hS hI
  dsimp only at hS hI
  have HS := hid hS
  have HI := hid hI
  have hbb1 : n1 ≤ 1048576 := hm1
  have hbb2 : n2 ≤ 1048576 := hm2
  clear hn0 hm0 hr0 hn1 hm1 hr1 hrow1 hfit hn2 hm2 hr2 hR hS hI
  go_enter Try.func5, Try.ntmps5
  go_wp2_with fail
  have HA0_1 : Hid (Box (w.alloc (.cells #[.int .i64 s0, .slice p0 n0 c0] 24)) (w.heap.size) s0 p0 n0 c0) := hid (by have h := (Box.new w s0 p0 n0 c0 24); first | exact h | simpa only [World.size_alloc] using h)
  have HB1 : Hid (Below w.heap.size w (w.alloc (.cells #[.int .i64 s0, .slice p0 n0 c0] 24))) := hid (bfrom (Below.refl _ _) (on_alloc _ (.cells #[.int .i64 s0, .slice p0 n0 c0] 24)))
  refine (szGraph_any _ _ _ _ _ _ hq0 (by omega) (by omega)).mono ?_
  rw [if_neg (by omega)]
  rintro e' w2 ⟨rfl, hb2⟩
  have HA0_2 := hid (HA0_1.out.on hb2)
  have HB2 := hid (bfrom HB1.out hb2)
  have hs2 : w.heap.size + 1 ≤ w2.heap.size := by have h := hb2.size; simp only [World.size_alloc] at h; omega
  clear HA0_1 HB1 hb2
  have hxA0 := HA0_2.out.1
  have hyA0 := HA0_2.out.2
  have hzA0 := HA0_2.out.lt
  go_wp2_with fail
  refine (szLists_any p1 c1 n1 (1048576 - n0) es1 _ (by omega) (by omega) hq1 Hn1.out (fun i hi => by have := Hrow1.out i hi; omega) (Hr1.out.on HB2.out)).mono ?_
  rintro e' w99 ⟨⟨z, rfl, hz⟩, hw99⟩
  rw [hw99]
  have hz0 : ¬ z < 0 := by have := HFit.out; omega
  clear hz hw99
  go_wp2_with fail
  refine (toGraph_any _ _ _ _ es0 _ Hn0.out Hm0.out (Hr0.out.on HB2.out)).mono ?_
  rintro e' w3 ⟨gT0, rfl, hgT0, hoT0, hb3⟩
  have hfT0 := FreshE.of_own hoT0 Hn0.out hgT0
  clear hoT0 hgT0
  have HA0_3 := hid (HA0_2.out.on hb3)
  have HB3 := hid (bfrom HB2.out hb3)
  have hs3 : w2.heap.size ≤ w3.heap.size := by have h := hb3.size; omega
  clear hxA0 hyA0 hzA0
  clear HA0_2 HB2 hb3
  have HT0_3 := hid hfT0
  have hq := fun g h => hfT0.own (g := g) h
  have QT0 := hid hq
  clear hfT0 hq
  have hxA0 := HA0_3.out.1
  have hyA0 := HA0_3.out.2
  have hzA0 := HA0_3.out.lt
  go_wp2_with fail
  refine (toLists_sees _ _ _ es1 _ Hn1.out Hm1.out Hrow1.out (Hr1.out.on HB3.out)).mono ?_
  rintro e' w4 ⟨gT1, rfl, hgT1, hoT1, hb4⟩
  have hfT1 := hoT1
  clear hoT1 hgT1
  have HA0_4 := hid (HA0_3.out.on hb4)
  have HT0_4 := hid (HT0_3.out.on hb4)
  have HB4 := hid (bfrom HB3.out hb4)
  have hs4 : w3.heap.size ≤ w4.heap.size := by have h := hb4.size; omega
  clear hxA0 hyA0 hzA0
  clear HA0_3 HT0_3 HB3 hb4
  have HT1_4 := hid hfT1
  clear hfT1
  have hxA0 := HA0_4.out.1
  have hyA0 := HA0_4.out.2
  have hzA0 := HA0_4.out.lt
  go_wp2_with fail
  refine (toInts_sees _ _ _ es2 _ Hn2.out Hm2.out (Hr2.out.on HB4.out)).mono ?_
  rintro e' w5 ⟨gT2, rfl, hgT2, hoT2, hb5⟩
  have hfT2 := FreshI.of_own hoT2 Hn2.out hgT2
  clear hoT2 hgT2
  have HA0_5 := hid (HA0_4.out.on hb5)
  have HT0_5 := hid (HT0_4.out.on hb5)
  have HT1_5 := hid (HT1_4.out.on hb5)
  have HB5 := hid (bfrom HB4.out hb5)
  have hs5 : w4.heap.size ≤ w5.heap.size := by have h := hb5.size; omega
  clear hxA0 hyA0 hzA0
  clear HA0_4 HT0_4 HT1_4 HB4 hb5
  have HT2_5 := hid hfT2
  have hq := fun g h => hfT2.own (g := g) h
  have QT2 := hid hq
  clear hfT2 hq
  have hxA0 := HA0_5.out.1
  have hyA0 := HA0_5.out.2
  have hzA0 := HA0_5.out.lt
  go_wp2_with fail
  refine (HS.out _ _ _ _ _ _ _ HT0_5.out.sees HT1_5.out HT2_5.out.sees).mono ?_
  rintro e' w6 ⟨rfl, hb6⟩
  have HA0_6 := hid (HA0_5.out.on hb6)
  have HT0_6 := hid (HT0_5.out.on hb6)
  have HT1_6 := hid (HT1_5.out.on hb6)
  have HT2_6 := hid (HT2_5.out.on hb6)
  have HB6 := hid (bfrom HB5.out hb6)
  have hs6 : w5.heap.size ≤ w6.heap.size := by have h := hb6.size; omega
  clear hxA0 hyA0 hzA0
  clear HA0_5 HT0_5 HT1_5 HT2_5 HB5 hb6
  clear HT0_6
  clear HT1_6
  clear HT2_6
  have hxA0 := HA0_6.out.1
  have hyA0 := HA0_6.out.2
  have hzA0 := HA0_6.out.lt
  go_wp2_with fail
  refine (toGraph_any _ _ _ _ es0 _ Hn0.out Hm0.out (Hr0.out.on HB6.out)).mono ?_
  rintro e' w7 ⟨gX0, rfl, hgX0, hoX0, hb7⟩
  have hfX0 := FreshE.of_own hoX0 Hn0.out hgX0
  clear hoX0 hgX0
  have HA0_7 := hid (HA0_6.out.on hb7)
  have HB7 := hid (bfrom HB6.out hb7)
  have hs7 : w6.heap.size ≤ w7.heap.size := by have h := hb7.size; omega
  clear hxA0 hyA0 hzA0
  clear HA0_6 HB6 hb7
  have HX0_7 := hid hfX0
  have hq := fun g h => hfX0.own (g := g) h
  have QX0 := hid hq
  clear hfX0 hq
  have hxA0 := HA0_7.out.1
  have hyA0 := HA0_7.out.2
  have hzA0 := HA0_7.out.lt
  go_wp2_with fail
  refine (toLists_sees _ _ _ es1 _ Hn1.out Hm1.out Hrow1.out (Hr1.out.on (bfrom HB7.out (on_alloc _ _)))).mono ?_
  rintro e' w8 ⟨gX1, rfl, hgX1, hoX1, hb8⟩
  have hfX1 := hoX1
  clear hoX1 hgX1
  have HA0_8 := hid ((HA0_7.out.on (on_alloc _ _)).on hb8)
  have HX0_8 := hid ((HX0_7.out.on (on_alloc _ _)).on hb8)
  have HXB0_8 := hid ((Box.new w7 s0 (some ⟨gX0, 0, none⟩) n0 n0 28).on hb8)
  have HB8 := hid (bfrom (bfrom HB7.out (on_alloc _ _)) hb8)
  have hs8 : w7.heap.size + 1 ≤ w8.heap.size := by have h := hb8.size; simp only [World.size_alloc] at h; omega
  clear hxA0 hyA0 hzA0
  clear HA0_7 HX0_7 HB7 hb8
  have HX1_8 := hid hfX1
  clear hfX1
  have hxA0 := HA0_8.out.1
  have hyA0 := HA0_8.out.2
  have hzA0 := HA0_8.out.lt
  have hxXB0 := HXB0_8.out.1
  have hyXB0 := HXB0_8.out.2
  have hzXB0 := HXB0_8.out.lt
  go_wp2_with fail
  refine (toInts_sees _ _ _ es2 _ Hn2.out Hm2.out (Hr2.out.on HB8.out)).mono ?_
  rintro e' w9 ⟨gX2, rfl, hgX2, hoX2, hb9⟩
  have hfX2 := FreshI.of_own hoX2 Hn2.out hgX2
  clear hoX2 hgX2
  have HA0_9 := hid (HA0_8.out.on hb9)
  have HX0_9 := hid (HX0_8.out.on hb9)
  have HXB0_9 := hid (HXB0_8.out.on hb9)
  have HX1_9 := hid (HX1_8.out.on hb9)
  have HB9 := hid (bfrom HB8.out hb9)
  have hs9 : w8.heap.size ≤ w9.heap.size := by have h := hb9.size; omega
  clear hxA0 hyA0 hzA0 hxXB0 hyXB0 hzXB0
  clear HA0_8 HX0_8 HXB0_8 HX1_8 HB8 hb9
  have HX2_9 := hid hfX2
  have hq := fun g h => hfX2.own (g := g) h
  have QX2 := hid hq
  clear hfX2 hq
  have hxA0 := HA0_9.out.1
  have hyA0 := HA0_9.out.2
  have hzA0 := HA0_9.out.lt
  have hxXB0 := HXB0_9.out.1
  have hyXB0 := HXB0_9.out.2
  have hzXB0 := HXB0_9.out.lt
  go_wp2_with fail
  refine (HI.out _ _ _ _ _ _ _ HX0_9.out.sees HX1_9.out HX2_9.out.sees).mono ?_
  rintro e' w10 ⟨rfl, hb10⟩
  have HA0_10 := hid (HA0_9.out.on hb10)
  have HX0_10 := hid (HX0_9.out.on hb10)
  have HXB0_10 := hid (HXB0_9.out.on hb10)
  have HX1_10 := hid (HX1_9.out.on hb10)
  have HX2_10 := hid (HX2_9.out.on hb10)
  have HB10 := hid (bfrom HB9.out hb10)
  have hs10 : w9.heap.size ≤ w10.heap.size := by have h := hb10.size; omega
  clear hxA0 hyA0 hzA0 hxXB0 hyXB0 hzXB0
  clear HA0_9 HX0_9 HXB0_9 HX1_9 HX2_9 HB9 hb10
  have hxA0 := HA0_10.out.1
  have hyA0 := HA0_10.out.2
  have hzA0 := HA0_10.out.lt
  have hxXB0 := HXB0_10.out.1
  have hyXB0 := HXB0_10.out.2
  have hzXB0 := HXB0_10.out.lt
  go_upto_region 17 with fail
  go_cut [63] (fun u wx => u = .bool false ∧ Hid (Below w10.heap.size w10 wx))
  case first =>
    go_region_with (first
      | (go_at_call 8; refine (toGraph_any _ _ _ _ es0 _ Hn0.out Hm0.out ?_).mono ?_; (first | exact Hr0.out.on HB10.out | exact Hr0.out.on HB10.out.drew); rintro e' w11 ⟨gY0, rfl, hgY0, hoY0, hb11⟩; have HoY0 := hid hoY0; clear hoY0; have huXB0 := ((bcells hb11).1 _ _ hzXB0).trans hxXB0; have hvXB0 := ((bcells hb11).1 _ _ hzXB0).trans hyXB0)
      | (go_at_call 10; refine (eqGraph_self _ _ _ _ _ _ es0 _ Hn0.out hq0 ?_ ?_).mono ?_; (exact (HX0_10.out.drew.on hb11).sees); (exact HoY0.out.sees); rintro e' w12 ⟨rfl, hb12⟩))
    all_goals (go_wp2_with fail; go_meet; exact ⟨rfl, hid (bfrom (bfrom (Below.refl _ _).drew hb11) hb12)⟩)
  case rest =>
  obtain ⟨rfl, hcb⟩ := hcut
  obtain ⟨w13, rfl⟩ : ∃ w13, w13 = wc := ⟨_, rfl⟩
  have hb13 := hcb.out
  clear hcb
  have HA0_13 := hid (HA0_10.out.on hb13)
  have HX0_13 := hid (HX0_10.out.on hb13)
  have HXB0_13 := hid (HXB0_10.out.on hb13)
  have HX1_13 := hid (HX1_10.out.on hb13)
  have HX2_13 := hid (HX2_10.out.on hb13)
  have HB13 := hid (bfrom HB10.out hb13)
  have hs13 : w10.heap.size ≤ w13.heap.size := hb13.size
  clear hxA0 hyA0 hzA0 hxXB0 hyXB0 hzXB0
  clear HA0_10 HX0_10 HXB0_10 HX1_10 HX2_10 HB10 hb13
  have hxA0 := HA0_13.out.1
  have hyA0 := HA0_13.out.2
  have hzA0 := HA0_13.out.lt
  have hxXB0 := HXB0_13.out.1
  have hyXB0 := HXB0_13.out.2
  have hzXB0 := HXB0_13.out.lt
  go_wp2_with fail
  refine (toLists_sees _ _ _ es1 _ Hn1.out Hm1.out Hrow1.out (Hr1.out.on HB13.out)).mono ?_
  rintro e' w14 ⟨gY1, rfl, hgY1, hoY1, hb14⟩
  have hfY1 := hoY1
  clear hoY1 hgY1
  have HA0_14 := hid (HA0_13.out.on hb14)
  have HX0_14 := hid (HX0_13.out.on hb14)
  have HXB0_14 := hid (HXB0_13.out.on hb14)
  have HX1_14 := hid (HX1_13.out.on hb14)
  have HX2_14 := hid (HX2_13.out.on hb14)
  have HB14 := hid (bfrom HB13.out hb14)
  have hs14 : w13.heap.size ≤ w14.heap.size := by have h := hb14.size; omega
  clear hxA0 hyA0 hzA0 hxXB0 hyXB0 hzXB0
  clear HA0_13 HX0_13 HXB0_13 HX1_13 HX2_13 HB13 hb14
  have HY1_14 := hid hfY1
  clear hfY1
  have hxA0 := HA0_14.out.1
  have hyA0 := HA0_14.out.2
  have hzA0 := HA0_14.out.lt
  have hxXB0 := HXB0_14.out.1
  have hyXB0 := HXB0_14.out.2
  have hzXB0 := HXB0_14.out.lt
  go_wp2_with fail
  refine (eqLists_self _ _ _ _ _ es1 _ Hn1.out Hm1.out Hrow1.out HX1_14.out HY1_14.out).mono ?_
  rintro e' w15 ⟨rfl, hb15⟩
  have HA0_15 := hid (HA0_14.out.on hb15)
  have HX0_15 := hid (HX0_14.out.on hb15)
  have HXB0_15 := hid (HXB0_14.out.on hb15)
  have HX1_15 := hid (HX1_14.out.on hb15)
  have HX2_15 := hid (HX2_14.out.on hb15)
  have HY1_15 := hid (HY1_14.out.on hb15)
  have HB15 := hid (bfrom HB14.out hb15)
  have hs15 : w14.heap.size ≤ w15.heap.size := by have h := hb15.size; omega
  clear hxA0 hyA0 hzA0 hxXB0 hyXB0 hzXB0
  clear HA0_14 HX0_14 HXB0_14 HX1_14 HX2_14 HY1_14 HB14 hb15
  clear HY1_15
  have hxA0 := HA0_15.out.1
  have hyA0 := HA0_15.out.2
  have hzA0 := HA0_15.out.lt
  have hxXB0 := HXB0_15.out.1
  have hyXB0 := HXB0_15.out.2
  have hzXB0 := HXB0_15.out.lt
  go_wp2_with fail
  refine (toInts_sees _ _ _ es2 _ Hn2.out Hm2.out (Hr2.out.on HB15.out)).mono ?_
  rintro e' w16 ⟨gY2, rfl, hgY2, hoY2, hb16⟩
  have hfY2 := FreshI.of_own hoY2 Hn2.out hgY2
  clear hoY2 hgY2
  have HA0_16 := hid (HA0_15.out.on hb16)
  have HX0_16 := hid (HX0_15.out.on hb16)
  have HXB0_16 := hid (HXB0_15.out.on hb16)
  have HX1_16 := hid (HX1_15.out.on hb16)
  have HX2_16 := hid (HX2_15.out.on hb16)
  have HB16 := hid (bfrom HB15.out hb16)
  have hs16 : w15.heap.size ≤ w16.heap.size := by have h := hb16.size; omega
  clear hxA0 hyA0 hzA0 hxXB0 hyXB0 hzXB0
  clear HA0_15 HX0_15 HXB0_15 HX1_15 HX2_15 HB15 hb16
  have HY2_16 := hid hfY2
  have hq := fun g h => hfY2.own (g := g) h
  have QY2 := hid hq
  clear hfY2 hq
  have hxA0 := HA0_16.out.1
  have hyA0 := HA0_16.out.2
  have hzA0 := HA0_16.out.lt
  have hxXB0 := HXB0_16.out.1
  have hyXB0 := HXB0_16.out.2
  have hzXB0 := HXB0_16.out.lt
  go_wp2_with fail
  refine (eqInts_self _ _ _ _ _ es2 _ Hn2.out hq2 HX2_16.out.sees HY2_16.out.sees).mono ?_
  rintro e' w17 ⟨rfl, hb17⟩
  have HA0_17 := hid (HA0_16.out.on hb17)
  have HX0_17 := hid (HX0_16.out.on hb17)
  have HXB0_17 := hid (HXB0_16.out.on hb17)
  have HX1_17 := hid (HX1_16.out.on hb17)
  have HX2_17 := hid (HX2_16.out.on hb17)
  have HY2_17 := hid (HY2_16.out.on hb17)
  have HB17 := hid (bfrom HB16.out hb17)
  have hs17 : w16.heap.size ≤ w17.heap.size := by have h := hb17.size; omega
  clear hxA0 hyA0 hzA0 hxXB0 hyXB0 hzXB0
  clear HA0_16 HX0_16 HXB0_16 HX1_16 HX2_16 HY2_16 HB16 hb17
  clear HY2_17
  go_wp2
  go_ret
  exact ⟨rfl, HB17.out⟩

theorem lawIsOrientedBy_any (s0 : Int) (p0 : Option Addr) (n0 c0 : Nat) (es0 : List (Int × Int)) (p1 : Option Addr) (n1 c1 : Nat) (es1 : List (List Int)) (p2 : Option Addr) (n2 c2 : Nat) (es2 : List Int) (w : World) (hn0 : es0.length = n0) (hl0 : n0 ≤ 9223372036854775807) (hr0 : SeesE w p0 es0) (hn1 : es1.length = n1) (hl1 : n1 ≤ 9223372036854775807) (hrow1 : ∀ i, i < n1 → (lI es1 i).length ≤ 9223372036854775807) (hr1 : SeesL w p1 es1) (hn2 : es2.length = n2) (hl2 : n2 ≤ 9223372036854775807) (hr2 : SeesI w p2 es2) :
    Calls Try.prog 5 #[.agg #[.int .i64 s0, .slice p0 n0 c0], .slice p1 n1 c1, .slice p2 n2 c2] w fun e' w' => e' = .returned (.bool true) ∧ Below w.heap.size w w' := by
  rcases Nat.lt_or_ge 1048576 n2 with h2 | h2
  · exact lawIsOrientedBy_big2 s0 p0 n0 c0 p1 n1 c1 p2 n2 c2 w hl2 h2
  rcases Nat.lt_or_ge 1048576 n0 with h0 | h0
  · exact lawIsOrientedBy_big0 s0 p0 n0 c0 p1 n1 c1 p2 n2 c2 w hl2 hl0 h2 h0
  by_cases hf : (n1 : Int) + (sumLL es1 n1 : Int) ≤ 1048576 - n0
  · exact lawIsOrientedBy_small s0 p0 n0 c0 es0 p1 n1 c1 es1 p2 n2 c2 es2 w hn0 h0 hr0 hn1 (by omega) (fun i hi => by have := sumLL_lt es1 hi; omega) hr1 hn2 h2 hr2 hf
  · exact lawIsOrientedBy_bigL s0 p0 n0 c0 p1 n1 c1 p2 n2 c2 es1 w hl2 h2 h0 hn1 hl1 hrow1 hr1 hf

end Go.Proofs.Ytfdlhdgmbjdhbaa
