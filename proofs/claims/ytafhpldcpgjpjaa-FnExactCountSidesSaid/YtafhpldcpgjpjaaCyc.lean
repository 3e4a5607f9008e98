/- Sides with cycles: as plain numbers, in the model, in the program; IsCyclicCut in both. -/
import Derived.Test.YtafhpldcpgjpjaaCutEI
import Derived.BigRegion
import Derived.BigQuiet
import Derived.Deep.RegionHeld3
namespace Go.Proofs.Ytafhpldcpgjpjaa
open Go.RowKit

/-- How often a number is met, of the first k ones. -/
def cntN (f : Nat → Int) (x k : Nat) : Nat := ((List.range k).filter fun w => f w == (x : Int)).length
def cntL (f : Nat → Int) (k N : Nat) : List Int := (List.range N).map fun (x : Nat) => (cntN f x k : Int)
theorem cntL_len (f : Nat → Int) (k N : Nat) : (cntL f k N).length = N := by simp [cntL]
theorem cntL_at {f : Nat → Int} {k N x : Nat} (h : x < N) : eI (cntL f k N) x = (cntN f x k : Int) := by
  rw [eI_lt (by rw [cntL_len]; exact h)]
  simp [cntL]
theorem cntN_le (f : Nat → Int) (x k : Nat) : cntN f x k ≤ k := by
  unfold cntN
  have := List.length_filter_le (fun w => f w == (x : Int)) (List.range k)
  rwa [List.length_range] at this
theorem cntN_succ (f : Nat → Int) (x k : Nat) : cntN f x (k + 1) = cntN f x k + if f k = (x : Int) then 1 else 0 := by
  unfold cntN
  rw [List.range_succ, List.filter_append, List.length_append]
  by_cases h : f k = (x : Int)
  · simp [h]
  · simp [h]
theorem cntL_zero (f : Nat → Int) (N : Nat) : cntL f 0 N = List.replicate N 0 := by
  refine List.ext_getElem (by simp [cntL]) fun i h1 h2 => ?_
  simp [cntL, cntN]
theorem cntL_step {f : Nat → Int} {k N X : Nat} (hX : f k = X) (hXN : X < N) : cntL f (k + 1) N = (cntL f k N).set X (eI (cntL f k N) X + 1) := by
  rw [cntL_at hXN]
  refine List.ext_getElem (by simp [cntL]) fun i h1 h2 => ?_
  have hi : i < N := by simpa [cntL] using h1
  rw [List.getElem_set]
  simp only [cntL, List.getElem_map, List.getElem_range]
  rw [cntN_succ, hX]
  by_cases h : X = i
  · subst h
    simp
  · rw [if_neg h, if_neg (by omega)]
    simp
theorem cntL_bnd {f : Nat → Int} {k N X : Nat} (h : X < N) : 0 ≤ eI (cntL f k N) X ∧ eI (cntL f k N) X ≤ k := by
  rw [cntL_at h]
  have := cntN_le f X k
  omega

/-- How many edges lie in the part of a vertex, of the first k ones. -/
def inU (N : Nat) (es : List (Int × Int)) (v k : Nat) : Nat := ((List.range k).filter fun i => reachB N es v (eA es i).toNat).length
theorem inU_yes {N : Nat} {es : List (Int × Int)} {v k : Nat} (h : reachB N es v (eA es k).toNat = true) : inU N es v (k + 1) = inU N es v k + 1 := by
  unfold inU
  rw [List.range_succ, List.filter_append, List.length_append]
  simp [h]
theorem inU_no {N : Nat} {es : List (Int × Int)} {v k : Nat} (h : reachB N es v (eA es k).toNat = false) : inU N es v (k + 1) = inU N es v k := by
  unfold inU
  rw [List.range_succ, List.filter_append, List.length_append]
  simp [h]
theorem inU_le (N : Nat) (es : List (Int × Int)) (v k : Nat) : inU N es v k ≤ k := by
  unfold inU
  have := List.length_filter_le (fun i => reachB N es v (eA es i).toNat) (List.range k)
  rwa [List.length_range] at this
def hasCyc (N : Nat) (es : List (Int × Int)) (v : Nat) : Bool := decide ((reachU N es v N).length ≤ inU N es v es.length)
def cycU (N : Nat) (es : List (Int × Int)) (k : Nat) : Nat := ((leadU N es k).filter (hasCyc N es)).length
theorem cycU_yes {N : Nat} {es : List (Int × Int)} {k : Nat} (hl : leadB N es k = true) (h : hasCyc N es k = true) : cycU N es (k + 1) = cycU N es k + 1 := by
  unfold cycU
  rw [leadU_yes hl, List.filter_append, List.length_append]
  simp [h]
theorem cycU_no {N : Nat} {es : List (Int × Int)} {k : Nat} (hl : leadB N es k = true) (h : hasCyc N es k = false) : cycU N es (k + 1) = cycU N es k := by
  unfold cycU
  rw [leadU_yes hl, List.filter_append, List.length_append]
  simp [h]
theorem cycU_skip {N : Nat} {es : List (Int × Int)} {k : Nat} (hl : leadB N es k = false) : cycU N es (k + 1) = cycU N es k := by
  unfold cycU
  rw [leadU_no hl]
theorem cycU_le (N : Nat) (es : List (Int × Int)) (k : Nat) : cycU N es k ≤ k := by
  unfold cycU
  exact Nat.le_trans (List.length_filter_le _ _) (leadU_len N es k)
/-- The sides one by one. -/
def cycT (N : Nat) (es : List (Int × Int)) (i : Nat) : Nat := (((leadU N es N).take i).filter (hasCyc N es)).length
theorem cycT_step {N : Nat} {es : List (Int × Int)} {i : Nat} (hi : i < (leadU N es N).length) : cycT N es (i + 1) = cycT N es i + if hasCyc N es ((leadU N es N).getD i 0) = true then 1 else 0 := by
  unfold cycT
  rw [List.take_add_one, List.getElem?_eq_getElem hi]
  simp only [Option.toList]
  rw [List.filter_append, List.length_append, List.getD_eq_getElem?_getD, List.getElem?_eq_getElem hi]
  simp only [Option.getD]
  by_cases h : hasCyc N es (leadU N es N)[i] = true
  · simp [h]
  · simp [h]
theorem cycT_end {N : Nat} {es : List (Int × Int)} {i : Nat} (h : (leadU N es N).length ≤ i) : cycT N es i = cycU N es N := by
  unfold cycT cycU
  rw [List.take_of_length_le h]
theorem cycT_le (N : Nat) (es : List (Int × Int)) (i : Nat) : cycT N es i ≤ i := by
  unfold cycT
  exact Nat.le_trans (List.length_filter_le _ _) (by rw [List.length_take]; omega)

/-- A leader's counts. -/
theorem lead_reach {N : Nat} {es : List (Int × Int)} {xs : List Int} (he : EndsIn N es) (h : IsLead N es xs) {v w : Nat} (hv : v < N) (hw : w < N) (hl : leadB N es v = true) : (eI xs w == (v : Int)) = reachB N es v w := by
  have hxv : eI xs v = (v : Int) := by
    have := h.at_lead he hv
    rw [hl] at this
    simpa using this
  have h1 : eI xs w = (v : Int) ↔ reachB N es v w = true := by
    rw [reachB_iff he hv hw]
    refine ⟨fun e => ?_, fun hc => ?_⟩
    · have := (h.1.at_ w hw).2.2
      rw [e] at this
      exact this.symm
    · rw [← h.conn he hv hc, hxv]
  cases hb : reachB N es v w
  · rw [hb] at h1
    simp at h1
    simpa using h1
  · rw [hb] at h1
    simpa using h1
theorem cnt_size {N : Nat} {es : List (Int × Int)} {xs : List Int} (he : EndsIn N es) (h : IsLead N es xs) {v : Nat} (hv : v < N) (hl : leadB N es v = true) : cntN (fun w => eI xs w) v N = (reachU N es v N).length := by
  unfold cntN reachU
  rw [List.length_map]
  congr 1
  refine List.filter_congr fun w hw => ?_
  exact lead_reach he h hv (List.mem_range.1 hw) hl
theorem cnt_inner {N : Nat} {es : List (Int × Int)} {xs : List Int} (he : EndsIn N es) (h : IsLead N es xs) {v : Nat} (hv : v < N) (hl : leadB N es v = true) : cntN (fun i => eI xs (eA es i).toNat) v es.length = inU N es v es.length := by
  unfold cntN inU
  congr 1
  refine List.filter_congr fun i hi => ?_
  have := he i (List.mem_range.1 hi)
  exact lead_reach he h hv (by omega) hl

def cycP (N : Nat) (es : List (Int × Int)) (xs : List Int) : Bool := decide (2 ≤ cycU N (restE es xs) N) && cutE N es xs
def fIsCyclicCut (s : Int) (es : List (Int × Int)) (xs : List Int) : Bool × Int := if IsG s es then (if isSetP es.length xs then (cycP s.toNat es xs, 0) else (false, 2)) else (false, 1)

theorem own_zeros (w : World) (g N : Nat) (hg : g = w.heap.size) (hN : N ≤ 20) : OwnI (w.alloc (.cells (madeCells (Value.int .i64 0).cells (N * 1)) 2)) g N (List.replicate N 0) := by
  subst hg
  refine ⟨_, heap_alloc_new w _, by rw [size_madeCells, Nat.mul_one], by simp, by unfold maxLen; omega, fun i hi => ?_⟩
  have hi' : i < N := by simpa using hi
  rw [eI_lt (by simpa using hi')]
  simp [madeCells, hi', Value.cells, Nat.mod_one]
theorem OwnI.grownBy {w w' : World} {g g1 cap : Nat} {xs : List Int} (h : OwnI w g cap xs) (hg : w.grownBy w' (some g1)) (hne : g ≠ g1) : OwnI w' g cap xs := h.keep (hg.block g h.lt (fun e => hne (Option.some.inj e)))
theorem ReadsE.grownBy {w w' : World} {b off g1 : Nat} {es : List (Int × Int)} (h : ReadsE w b off es) (hl : b < w.heap.size) (hg : w.grownBy w' (some g1)) (hne : b ≠ g1) : ReadsE w' b off es := h.keep (hg.block b hl (fun e => hne (Option.some.inj e)))
theorem Box.grownBy {w w' : World} {B n c g1 : Nat} {s : Int} {p : Option Addr} (h : Box w B s p n c) (hg : w.grownBy w' (some g1)) (hne : B ≠ g1) : Box w' B s p n c := h.kept hg (fun e => hne (Option.some.inj e))

set_option maxRecDepth 100000 in
set_option maxHeartbeats 16000000 in
theorem sCycles_any (N : Nat) (b off n c k f : Nat) (ps : Option Addr) (es : List (Int × Int)) (xs : List Int) (w : World) (hn : es.length = n) (hr : ReadsE w b off es) (g : IsG N es) (hk9 : k ≤ 1048576) (hx : xs.length = k) (hrx : SeesI w ps xs) (gs : isSetP n xs) :
    Calls Try.prog 82 #[.agg #[.int .i64 N, .slice (some ⟨b, off, none⟩) n c], .slice ps k f] w fun e' w' => e' = .returned (.tuple #[.int .i64 (numP N (restE es xs)), .int .i64 (cycU N (restE es xs) N)]) ∧ Below w.heap.size w w' := by
  have hn30 : n ≤ 30 := by have := isG_len g; omega
  have hN4 : N ≤ 20 := by have := g.1.1.2.1; omega
  have Hn := hid hn
  have Hr := hid hr
  have Hx := hid hx
  have Hrx := hid hrx
  have GS := hid gs
  have hL30 : (restE es xs).length ≤ 30 := by have := restU_len es xs es.length; unfold restE; omega
  obtain ⟨R, hR⟩ : ∃ R, R = restE es xs := ⟨_, rfl⟩
  have HREQ := hid hR
  have HEI := hid (show EndsIn N R by rw [hR]; exact rest_ends (endsIn_of g))
  rw [← hR] at hL30 ⊢
  obtain ⟨m, hm⟩ : ∃ m, R.length = m := ⟨_, rfl⟩
  rw [hm] at hL30
  have HM := hid hm
  obtain ⟨i0, hi, hz0, hz1, hz2⟩ := info_parts infoInt
  have hmk0 : ∀ w', (Instr.makeSlice 44 (.int .i64 N) (.int .i64 N)).run Try.prog w' = .ok (.slice (some ⟨w'.heap.size, 0, none⟩) N N) (w'.alloc (.cells (madeCells (Value.int .i64 0).cells (N * 1)) 2)) := fun w' => by
    have h := run_makeSlice (P := Try.prog) w' 44 2 i0 (.int .i64 0) Try.underlying44 hi hz0 .i64 .i64 N N (by omega) (Int.le_refl _) (by rw [hz1]; omega) (by rw [hz2]; omega) (by omega)
    rw [hz1] at h
    simpa using h
  obtain ⟨ZC, hZC⟩ : ∃ ZC, ZC = madeCells (Value.int .i64 0).cells (N * 1) := ⟨_, rfl⟩
  have HZ := hid (show ∀ (w' : World) (g' : Nat), g' = w'.heap.size → OwnI (w'.alloc (.cells ZC 2)) g' N (List.replicate N 0) from fun w' g' hg => by rw [hZC]; exact own_zeros w' g' N hg hN4)
  have hmk : ∀ w', (Instr.makeSlice 44 (.int .i64 N) (.int .i64 N)).run Try.prog w' = .ok (.slice (some ⟨w'.heap.size, 0, none⟩) N N) (w'.alloc (.cells ZC 2)) := by rw [hZC]; exact hmk0
  clear hn hr g hx hrx gs hR hm hi hmk0 hZC
  go_enter Try.func82, Try.ntmps82
  go_wp2_with fail
  refine (sRest_any N b off n c k f ps es xs _ Hn.out hn30 (Hr.out.on (on_alloc _ _)) Hx.out hk9 (Hrx.out.on (on_alloc _ _)) GS.out).mono ?_
  rw [← HREQ.out, HM.out]
  rintro e w2 ⟨qR, cR, rfl, hf2, hb2⟩
  have HB2 := hid (bfrom (w := w) (on_alloc _ _) hb2)
  have hX2 := (Box.new w N (some ⟨b, off, none⟩) n c 31).on hb2
  have HX2 := hid hX2
  have hx2 := hX2.1
  have hz2' := hX2.lt
  have HS2 := hid hf2.sees
  clear hb2 hX2 hf2
  go_wp2_with fail
  refine (sLeaders_any N qR m cR R _ HM.out hL30 hN4 HS2.out HEI.out).mono ?_
  rintro e w3 ⟨gL, capL, xl, rfl, hgL, hOL, hLd, hb3⟩
  have HB3 := hid (bfrom HB2.out hb3)
  have HX3 := hid (HX2.out.on hb3)
  have HS3 := hid (HS2.out.on hb3)
  have HOL := hid hOL
  have HLd := hid hLd
  have hgLz := hOL.lt
  clear hx2 hz2' hb3 hOL hLd
  have hx3 := HX3.out.1
  have hz3 := HX3.out.lt
  go_upto_region 3 with fail
  go_cut [8, 9] (fun u v wx => ∃ gV gI, u = .slice (some ⟨gV, 0, none⟩) N N ∧ v = .slice (some ⟨gI, 0, none⟩) N N ∧ Hid (OwnI wx gV N (List.replicate N 0) ∧ OwnI wx gI N (List.replicate N 0) ∧ gV ≠ gI ∧ w3.heap.size ≤ gV ∧ w3.heap.size ≤ gI ∧ Below w3.heap.size w3 wx))
  case first =>
    go_region
    all_goals
      go_wp2_with fail
      go_meet
      have hBB : Below w3.heap.size w3 (((w3.alloc (.cells ZC 2)).alloc (.cells ZC 2)).drew) := (bfrom (on_alloc _ _) (on_alloc _ _)).drew
      have h1 := (HZ.out w3 w3.heap.size rfl).on (on_alloc (w3.alloc (.cells ZC 2)) (.cells ZC 2))
      have h2 := HZ.out (w3.alloc (.cells ZC 2)) (w3.heap.size + 1) (by simp)
      first
        | exact ⟨w3.heap.size, w3.heap.size + 1, rfl, rfl, hid ⟨h1, h2, by omega, by omega, by omega, hBB⟩⟩
        | exact ⟨w3.heap.size + 1, w3.heap.size, rfl, rfl, hid ⟨h2, h1, by omega, by omega, by omega, hBB⟩⟩
  case rest =>
  obtain ⟨gV, gI, rfl, rfl, hcb⟩ := hcut
  obtain ⟨w5, rfl⟩ : ∃ w5, w5 = wc := ⟨_, rfl⟩
  have HV5 := hid hcb.out.1
  have HI5 := hid hcb.out.2.1
  have hVI := hcb.out.2.2.1
  have hgV := hcb.out.2.2.2.1
  have hgI := hcb.out.2.2.2.2.1
  have HB35 := hid hcb.out.2.2.2.2.2
  have HB5 := hid (bfrom HB3.out HB35.out)
  have HX5 := hid (HX3.out.on HB35.out)
  have HS5 := hid (HS3.out.on HB35.out)
  have HL5 := hid (HOL.out.on HB35.out)
  have hgVz := HV5.out.lt
  have hgIz := HI5.out.lt
  clear hcb hx3 hmk
  go_wp2
  go_loopw [10] (fun v wr => ∃ a : Nat, a ≤ N ∧ v = .int .i64 a ∧ Hid (OwnI wr gV N (cntL (fun w => eI xl w) a N)) ∧ Hid (w5.grownBy wr (some gV))) (fun v _ => N - (intOf v).toNat)
  case atStart => exact ⟨0, Nat.zero_le _, rfl, hid (by rw [cntL_zero]; exact HV5.out), hid ⟨rfl, rfl, rfl, Nat.le_refl _, fun _ _ _ => rfl⟩⟩
  case round =>
    obtain ⟨a, ha, rfl, hV, hG⟩ := hrel
    have HXr := hid (HX5.out.grownBy hG.out (by omega))
    have hxr := HXr.out.1
    have hzr := HXr.out.lt
    have hsz := hG.out.size
    by_cases hlt : a < N
    · have hLr := HL5.out.grownBy hG.out (by omega)
      have hca := hLr.reads a (by rw [HLd.out.1.len]; exact hlt)
      rw [Nat.zero_add] at hca
      have hla := HLd.out.1.at_ a hlt
      obtain ⟨X, hX⟩ : ∃ X : Nat, eI xl a = X := ⟨_, (Int.toNat_of_nonneg hla.1).symm⟩
      rw [hX] at hca hla
      have hXN : X < N := by omega
      have hXN' : (X : Int) < (N : Int) := by omega
      have HXX := hid hX
      have hgLr := hLr.lt
      have hcv := hV.out.reads X (by rw [cntL_len]; exact hXN)
      rw [Nat.zero_add] at hcv
      have hfv := hV.out.free X
      have hgVr := hV.out.lt
      have hcb := cntL_bnd (f := fun w => eI xl w) (k := a) hXN
      obtain ⟨y, hy⟩ : ∃ y, eI (cntL (fun w => eI xl w) a N) X = y := ⟨_, rfl⟩
      rw [hy] at hcv hcb
      have HY := hid hy
      obtain ⟨y1, y2⟩ := hcb
      have e4 : IntKind.i64.wrap (y + 1) = y + 1 := IntWalk.i64_in _ (by omega)
      clear hX hla hy hLr
      go_wp2
      go_roundw
      case rel => exact ⟨a + 1, by omega, by go_num, hid (by rw [cntL_step (f := fun w => eI xl w) HXX.out hXN, HY.out]; exact OwnI.set hV.out (by rw [cntL_len]; exact hXN) _), hid (gset hG.out X _)⟩
      case measure => simp [intOf]; omega
    · obtain ⟨w6, rfl⟩ : ∃ w6 : World, w6 = wr := ⟨_, rfl⟩
      have haN := hid (show a = N by omega)
      have HV6 := hid (show OwnI w6 gV N (cntL (fun w => eI xl w) N N) by have h := hV.out; rw [haN.out] at h; exact h)
      have HI6 := hid (HI5.out.grownBy hG.out (Ne.symm hVI))
      have HL6 := hid (HL5.out.grownBy hG.out (by omega))
      have HB6 := hid (show Below w3.heap.size w3 w6 from HB35.out.grown hG.out HB35.out.size (fun j e => by cases e; exact hgV))
      have HBw6 := hid (bfrom HB3.out HB6.out)
      have HS6 := hid (HS3.out.on HB6.out)
      have HX6 := hid (HX3.out.on HB6.out)
      go_wp2
      go_loopw [11] (fun v wr => ∃ a : Nat, a ≤ m ∧ v = .int .i64 a ∧ Hid (OwnI wr gI N (cntL (fun i => eI xl (eA R i).toNat) a N)) ∧ Hid (w6.grownBy wr (some gI))) (fun v _ => m - (intOf v).toNat)
      case atStart => exact ⟨0, Nat.zero_le _, rfl, hid (by rw [cntL_zero]; exact HI6.out), hid ⟨rfl, rfl, rfl, Nat.le_refl _, fun _ _ _ => rfl⟩⟩
      case round =>
        obtain ⟨j, hj, rfl, hJ, hG2⟩ := hrel
        have hsz2 := hG2.out.size
        by_cases hltj : j < m
        · obtain ⟨bR, oR, rfl, hrd⟩ : ∃ b o, qR = some ⟨b, o, none⟩ ∧ ReadsE w3 b o R := by
            rcases HS3.out with h | h
            · have := HM.out; rw [h] at this; simp at this; omega
            · exact h
          have hbR := reads_lt hrd (by have := HM.out; omega)
          have hrr := (hrd.on HB6.out).grownBy (by have := HB6.out.size; omega) hG2.out (by omega)
          have hbRr := reads_lt hrr (by have := HM.out; omega)
          have hc1 := (hrr j (by have := HM.out; omega)).1
          have hej := HEI.out j (by have := HM.out; omega)
          obtain ⟨E, hE⟩ : ∃ E : Nat, eA R j = E := ⟨_, (Int.toNat_of_nonneg hej.1.1).symm⟩
          rw [hE] at hc1 hej
          have hEN : E < N := by omega
          have hEN' : (E : Int) < (N : Int) := by omega
          have HEE := hid hE
          have hLr := HL6.out.grownBy hG2.out (by omega)
          have hca := hLr.reads E (by rw [HLd.out.1.len]; exact hEN)
          rw [Nat.zero_add] at hca
          have hla := HLd.out.1.at_ E hEN
          obtain ⟨X, hX⟩ : ∃ X : Nat, eI xl E = X := ⟨_, (Int.toNat_of_nonneg hla.1).symm⟩
          rw [hX] at hca hla
          have hXN : X < N := by omega
          have hXN' : (X : Int) < (N : Int) := by omega
          have HXX := hid (show (fun i => eI xl (eA R i).toNat) j = (X : Int) by show eI xl (eA R j).toNat = X; rw [hE, Int.toNat_natCast, hX])
          have hgLr := hLr.lt
          have hcv := hJ.out.reads X (by rw [cntL_len]; exact hXN)
          rw [Nat.zero_add] at hcv
          have hfv := hJ.out.free X
          have hgIr := hJ.out.lt
          have hcb := cntL_bnd (f := fun i => eI xl (eA R i).toNat) (k := j) hXN
          obtain ⟨y, hy⟩ : ∃ y, eI (cntL (fun i => eI xl (eA R i).toNat) j N) X = y := ⟨_, rfl⟩
          rw [hy] at hcv hcb
          have HY := hid hy
          obtain ⟨y1, y2⟩ := hcb
          have e4 : IntKind.i64.wrap (y + 1) = y + 1 := IntWalk.i64_in _ (by omega)
          clear hX hla hy hLr hE hej hrr hrd
          go_wp2
          go_roundw
          case rel => exact ⟨j + 1, by omega, by go_num, hid (by rw [cntL_step (f := fun i => eI xl (eA R i).toNat) HXX.out hXN, HY.out]; exact OwnI.set hJ.out (by rw [cntL_len]; exact hXN) _), hid (gset hG2.out X _)⟩
          case measure => simp [intOf]; omega
        · obtain ⟨w7, rfl⟩ : ∃ w7 : World, w7 = wr := ⟨_, rfl⟩
          have hjm := hid (show j = m by omega)
          have HI7 := hid (show OwnI w7 gI N (cntL (fun i => eI xl (eA R i).toNat) R.length N) by have h := hJ.out; rw [hjm.out] at h; rw [HM.out]; exact h)
          have HV7 := hid (HV6.out.grownBy hG2.out hVI)
          have HL7 := hid (HL6.out.grownBy hG2.out (by omega))
          have HB7 := hid (show Below w3.heap.size w3 w7 from HB6.out.grown hG2.out HB6.out.size (fun j e => by cases e; exact hgI))
          have HX7 := hid (HX3.out.on HB7.out)
          have hz7 := HX7.out.lt
          go_wp2
          go_loopw [12, 13, 14] (fun u v y wr => ∃ a : Nat, a ≤ N ∧ u = .int .i64 (leadU N R a).length ∧ v = .int .i64 (cycU N R a) ∧ y = .int .i64 a ∧ Hid (∃ d, wr = World.drewN w7 d)) (fun _ _ y _ => N - (intOf y).toNat)
          case atStart => exact ⟨0, Nat.zero_le _, rfl, rfl, rfl, hid ⟨0, rfl⟩⟩
          case round =>
            obtain ⟨a, ha, rfl, rfl, rfl, hw⟩ := hrel
            obtain ⟨d, hwd⟩ := hw.out
            have HVr := hid (show OwnI wr gV N (cntL (fun w => eI xl w) N N) by rw [hwd]; exact OwnI.drewN HV7.out)
            have HIr := hid (show OwnI wr gI N (cntL (fun i => eI xl (eA R i).toNat) R.length N) by rw [hwd]; exact OwnI.drewN HI7.out)
            have HLr := hid (show OwnI wr gL capL xl by rw [hwd]; exact OwnI.drewN HL7.out)
            have HXr := hid (show Box wr w.heap.size N (some ⟨b, off, none⟩) n c by rw [hwd]; exact HX7.out)
            have HWD := hid hwd
            clear hwd hw
            have hxr := HXr.out.1
            have hzr := HXr.out.lt
            have hl1 := leadU_len N R a
            have hc1 := cycU_le N R a
            obtain ⟨l1, hl⟩ : ∃ l1, (leadU N R a).length = l1 := ⟨_, rfl⟩
            obtain ⟨c1, hc⟩ : ∃ c1, cycU N R a = c1 := ⟨_, rfl⟩
            rw [hl] at hl1
            rw [hc] at hc1
            rw [hl, hc]
            have HLl := hid hl
            have HCc := hid hc
            by_cases hlt : a < N
            · have hca := HLr.out.reads a (by rw [HLd.out.1.len]; exact hlt)
              rw [Nat.zero_add] at hca
              have hbe := HLd.out.at_lead HEI.out hlt
              have hgLr := HLr.out.lt
              obtain ⟨x, hx⟩ : ∃ x, eI xl a = x := ⟨_, rfl⟩
              rw [hx] at hca hbe
              cases hlb : leadB N R a
              · rw [hlb] at hbe
                have hbe' : (x != (a : Int)) = true := by simpa using hbe
                have HLB := hid hlb
                clear hx hbe hlb hl hc
                go_wp2
                go_roundw
                case rel => exact ⟨a + 1, by omega, by rw [leadU_no HLB.out, HLl.out], by rw [cycU_skip HLB.out, HCc.out], by go_num, hid ⟨d, HWD.out⟩⟩
                case measure => simp [intOf]; omega
              · rw [hlb] at hbe
                have hbe' : (x != (a : Int)) = false := by simpa using hbe
                have HLB := hid hlb
                have hsz := cnt_size HEI.out HLd.out hlt hlb
                have hin := cnt_inner HEI.out HLd.out hlt hlb
                have hcV := HVr.out.reads a (by rw [cntL_len]; exact hlt)
                have hcI := HIr.out.reads a (by rw [cntL_len]; exact hlt)
                rw [Nat.zero_add, cntL_at hlt, hsz] at hcV
                rw [Nat.zero_add, cntL_at hlt, hin] at hcI
                have hgVr := HVr.out.lt
                have hgIr := HIr.out.lt
                obtain ⟨pv, hpv⟩ : ∃ pv, (reachU N R a N).length = pv := ⟨_, rfl⟩
                obtain ⟨pi, hpi⟩ : ∃ pi, inU N R a R.length = pi := ⟨_, rfl⟩
                rw [hpv] at hcV
                rw [hpi] at hcI
                have hcy : hasCyc N R a = decide (pv ≤ pi) := by unfold hasCyc; rw [hpv, hpi]
                have HCY := hid hcy
                clear hx hbe hlb hl hc hsz hin hpv hpi hcy
                by_cases hpp : pv ≤ pi
                · have HH := hid (show hasCyc N R a = true by rw [HCY.out]; simpa using hpp)
                  go_wp2
                  go_quiet (fail)
                  go_wp2
                  go_roundw
                  case rel => exact ⟨a + 1, by omega, by rw [leadU_yes HLB.out, List.length_append, HLl.out]; simp, by rw [cycU_yes HLB.out HH.out, HCc.out]; simp, by go_num, hid (by rw [HWD.out]; exact ⟨_, World.drewN_drewN _ _ _⟩)⟩
                  case measure => simp [intOf]; omega
                · have HH := hid (show hasCyc N R a = false by rw [HCY.out]; simpa using hpp)
                  go_wp2
                  go_quiet (fail)
                  go_wp2
                  go_roundw
                  case rel => exact ⟨a + 1, by omega, by rw [leadU_yes HLB.out, List.length_append, HLl.out]; simp, by rw [cycU_no HLB.out HH.out, HCc.out], by go_num, hid (by rw [HWD.out]; exact ⟨_, World.drewN_drewN _ _ _⟩)⟩
                  case measure => simp [intOf]; omega
            · have haN2 := hid (show a = N by omega)
              have HR1 := hid (show numP N R = l1 by have h := HLl.out; rw [haN2.out] at h; exact h)
              have HR2 := hid (show cycU N R N = c1 by have h := HCc.out; rw [haN2.out] at h; exact h)
              go_wp2
              go_ret2
              refine ⟨?_, ?_⟩
              · rw [HR1.out, HR2.out]
                rfl
              · rw [HWD.out]
                exact bdn.mpr (bfrom HB3.out HB7.out)

set_option maxRecDepth 100000 in
set_option maxHeartbeats 4000000 in
theorem sCyclic_any (N : Nat) (b off n c k f : Nat) (ps : Option Addr) (es : List (Int × Int)) (xs : List Int) (w : World) (hn : es.length = n) (hr : ReadsE w b off es) (g : IsG N es) (hk9 : k ≤ 1048576) (hx : xs.length = k) (hrx : SeesI w ps xs) (gs : isSetP n xs) :
    Calls Try.prog 80 #[.agg #[.int .i64 N, .slice (some ⟨b, off, none⟩) n c], .slice ps k f] w fun e' w' => e' = .returned (.bool (cycP N es xs)) ∧ Below w.heap.size w w' := by
  have hn30 : n ≤ 30 := by have := isG_len g; omega
  have hN4 : N ≤ 20 := by have := g.1.1.2.1; omega
  have Hn := hid hn
  have Hr := hid hr
  have G := hid g
  have Hx := hid hx
  have Hrx := hid hrx
  have GS := hid gs
  obtain ⟨m1, hm1⟩ : ∃ m, numP N (restE es xs) = m := ⟨_, rfl⟩
  obtain ⟨m2, hm2⟩ : ∃ m, numP N es = m := ⟨_, rfl⟩
  obtain ⟨c1, hc1⟩ : ∃ m, cycU N (restE es xs) N = m := ⟨_, rfl⟩
  have hcy : cycP N es xs = (decide (2 ≤ c1) && decide (m2 < m1)) := by unfold cycP cutE; rw [hc1, hm1, hm2]
  rw [hcy]
  have HM1 := hid hm1
  have HM2 := hid hm2
  have HC1 := hid hc1
  clear hn hr g hx hrx gs hm1 hm2 hc1 hcy
  by_cases h2 : 2 ≤ c1
  · have h2' : decide ((2 : Int) ≤ (c1 : Int)) = true := by simp; omega
    rw [show decide (2 ≤ c1) = true by simpa using h2, Bool.true_and]
    go_enter Try.func80, Try.ntmps80
    go_wp2_with fail
    refine (sCycles_any N b off n c k f ps es xs _ Hn.out (Hr.out.on (on_alloc _ _)) G.out hk9 Hx.out (Hrx.out.on (on_alloc _ _)) GS.out).mono ?_
    rw [HM1.out, HC1.out]
    rintro e w2 ⟨rfl, hb2⟩
    have HB2 := hid (bfrom (w := w) (on_alloc _ _) hb2)
    have hX2 := (Box.new w N (some ⟨b, off, none⟩) n c 31).on hb2
    have hx2 := hX2.1
    have hy2 := hX2.2
    have hz2 := hX2.lt
    clear hX2 hb2
    go_wp2_with (go_at_call 79; refine (sParts_any N _ n c es _ Hn.out hn30 hN4 (SeesE.on (.inr ⟨b, off, rfl, Hr.out⟩) HB2.out) (endsIn_of G.out)).mono ?_; rw [HM2.out]; rintro e' w3 ⟨rfl, hb3⟩; have HB3 := hid (bfrom HB2.out hb3); clear hb3)
    go_ret
    exact ⟨rfl, HB3.out⟩
  · have h2' : decide ((2 : Int) ≤ (c1 : Int)) = false := by simp; omega
    rw [show decide (2 ≤ c1) = false by simpa using h2, Bool.false_and]
    go_enter Try.func80, Try.ntmps80
    go_wp2_with fail
    refine (sCycles_any N b off n c k f ps es xs _ Hn.out (Hr.out.on (on_alloc _ _)) G.out hk9 Hx.out (Hrx.out.on (on_alloc _ _)) GS.out).mono ?_
    rw [HM1.out, HC1.out]
    rintro e w2 ⟨rfl, hb2⟩
    have HB2 := hid (bfrom (w := w) (on_alloc _ _) hb2)
    clear hb2
    go_wp2
    go_ret
    exact ⟨rfl, HB2.out⟩

set_option maxRecDepth 100000 in
set_option maxHeartbeats 2000000 in
theorem sCyc_code (s q0 : Int) (p ps : Option Addr) (n c k f : Nat) (es : List (Int × Int)) (xs : List Int) (w : World) (hm : n ≤ 1048576) (hn : es.length = n) (hr : SeesE w p es) (hk9 : k ≤ 1048576) (hx : xs.length = k) (hrx : SeesI w ps xs) (hq : edgesCode s es xs = q0) (hne : (q0 != 0) = true) :
    Calls Try.prog 46 #[.agg #[.int .i64 s, .slice p n c], .slice ps k f] w fun e' w' => e' = .returned (.tuple #[.bool false, .int .i64 q0]) ∧ Below w.heap.size w w' := by
  have Hn := hid hn
  have Hr := hid hr
  have Hx := hid hx
  have Hrx := hid hrx
  have HQ := hid hq
  clear hn hr hx hrx hq
  go_enter Try.func46, Try.ntmps46
  go_wp2_with fail
  refine (sEdges_any _ _ _ _ _ _ _ es xs _ hm Hn.out (Hr.out.on (on_alloc _ _)) hk9 Hx.out (Hrx.out.on (on_alloc _ _))).mono ?_
  rw [HQ.out]
  rintro e w2 ⟨rfl, hb2⟩
  have HB2 := hid (bfrom (w := w) (on_alloc _ _) hb2)
  clear hb2
  go_wp2
  go_ret2
  exact ⟨rfl, HB2.out⟩

set_option maxRecDepth 100000 in
set_option maxHeartbeats 4000000 in
theorem sCyc_yes (N : Nat) (b off n c k f : Nat) (ps : Option Addr) (es : List (Int × Int)) (xs : List Int) (w : World) (hn : es.length = n) (hr : ReadsE w b off es) (g : IsG N es) (hk9 : k ≤ 1048576) (hx : xs.length = k) (hrx : SeesI w ps xs) (gs : isSetP n xs) :
    Calls Try.prog 46 #[.agg #[.int .i64 N, .slice (some ⟨b, off, none⟩) n c], .slice ps k f] w fun e' w' => e' = .returned (.tuple #[.bool (cycP N es xs), .int .i64 0]) ∧ Below w.heap.size w w' := by
  have hn30 : n ≤ 30 := by have := isG_len g; omega
  have Hn := hid hn
  have Hr := hid hr
  have G := hid g
  have Hx := hid hx
  have Hrx := hid hrx
  have GS := hid gs
  have HQ := hid (show edgesCode N es xs = 0 by unfold edgesCode setCode; rw [if_pos g, hn, if_pos gs])
  clear hn hr g hx hrx gs
  go_enter Try.func46, Try.ntmps46
  go_wp2_with fail
  refine (sEdges_any _ _ _ _ _ _ _ es xs _ (by omega) Hn.out (SeesE.on (.inr ⟨b, off, rfl, Hr.out⟩) (on_alloc _ _)) hk9 Hx.out (Hrx.out.on (on_alloc _ _))).mono ?_
  rw [HQ.out]
  rintro e w3 ⟨rfl, hb3⟩
  have HB3 := hid (bfrom (w := w) (on_alloc _ _) hb3)
  have hX3 := (Box.new w N (some ⟨b, off, none⟩) n c 31).on hb3
  have hx3 := hX3.1
  have hy3 := hX3.2
  have hz3 := hX3.lt
  clear hX3 hb3
  go_wp2_with fail
  refine (sCyclic_any N b off n c k f ps es xs _ Hn.out (Hr.out.on HB3.out) G.out hk9 Hx.out (Hrx.out.on HB3.out) GS.out).mono ?_
  rintro e w4 ⟨rfl, hb4⟩
  have HB4 := hid (bfrom HB3.out hb4)
  clear hx3 hy3 hz3 hb4
  go_wp2
  go_ret2
  exact ⟨rfl, HB4.out⟩

theorem sIsCyclicCut_any (s : Int) (p : Option Addr) (n c : Nat) (es : List (Int × Int)) (ps : Option Addr) (k f : Nat) (xs : List Int) (w : World) (hm : n ≤ 1048576) (hn : es.length = n) (hr : SeesE w p es) (hk : k ≤ 1048576) (hx : xs.length = k) (hrx : SeesI w ps xs) :
    Calls Try.prog 46 #[.agg #[.int .i64 s, .slice p n c], .slice ps k f] w fun e' w' => e' = .returned (.tuple #[.bool (fIsCyclicCut s es xs).1, .int .i64 (fIsCyclicCut s es xs).2]) ∧ Below w.heap.size w w' := by
  unfold fIsCyclicCut
  by_cases g : IsG s es
  · rw [if_pos g]
    obtain ⟨N, rfl⟩ : ∃ N : Nat, s = N := ⟨_, (Int.toNat_of_nonneg (by have := g.1.1.1; omega)).symm⟩
    rw [Int.toNat_natCast]
    by_cases gs : isSetP es.length xs
    · rw [if_pos gs]
      obtain ⟨b, off, rfl, rd⟩ := isG_sees g hr
      exact sCyc_yes N b off n c k f ps es xs w hn rd g hk hx hrx (by rw [← hn]; exact gs)
    · rw [if_neg gs]
      exact sCyc_code N 2 p ps n c k f es xs w hm hn hr hk hx hrx (by unfold edgesCode setCode; rw [if_pos g, if_neg gs]) rfl
  · rw [if_neg g]
    exact sCyc_code s 1 p ps n c k f es xs w hm hn hr hk hx hrx (by unfold edgesCode; rw [if_neg g]) rfl

theorem mem_reach {N : Nat} {es : List (Int × Int)} {v E : Nat} (hE : E < N) : decide ((E : Int) ∈ reachU N es v N) = reachB N es v E := by
  have h1 : (E : Int) ∈ reachU N es v N ↔ reachB N es v E = true := by
    unfold reachU
    rw [List.mem_map]
    refine ⟨fun ⟨i, hi, e⟩ => ?_, fun h => ⟨E, List.mem_filter.2 ⟨List.mem_range.2 hE, h⟩, rfl⟩⟩
    have e' : i = E := by omega
    subst e'
    exact (List.mem_filter.1 hi).2
  cases hb : reachB N es v E
  · rw [hb] at h1
    exact decide_eq_false (fun h => by have := h1.1 h; cases this)
  · exact decide_eq_true (h1.2 hb)
theorem PartsM.cell {w : World} {B N : Nat} {es : List (Int × Int)} {k K cap : Nat} {q : Option Addr} {vals : List Value} (h : PartsM w B N es k K cap q vals) {i : Nat} (hi : i < K) :
    ∃ gq g m c, q = some ⟨gq, 0, none⟩ ∧ w.cell? ⟨gq, i, none⟩ = some (.slice (some ⟨g, 0, none⟩) m c) ∧ gq < w.heap.size ∧ (reachU N es ((leadU N es k).getD i 0) N).length = m ∧ OwnI w g c (reachU N es ((leadU N es k).getD i 0) N) := by
  obtain ⟨h1, h2, h3, h4⟩ := h
  obtain ⟨g, m, c, e1, e2, e3, e4⟩ := h4 i hi
  rcases h1.2 with ⟨_, h0⟩ | ⟨gq, cap', cur, hv, hb, hg, hn, hm, hs, ht⟩
  · omega
  · injection hv with v1 v2 v3
    refine ⟨gq, g, m, c, v1, ?_, (Array.getElem?_eq_some_iff.1 hg).1, e3, e4⟩
    rw [cell_of_row w gq i cur _ _ hg]
    have h5 : (cur.toList.take (K * 1))[i]? = cur.toList[i]? := by rw [List.getElem?_take, if_pos (by omega)]
    rw [ht, e1] at h5
    rw [← Array.getElem?_toList, ← h5]
theorem lead_lt {N : Nat} {es : List (Int × Int)} {i : Nat} (h : i < (leadU N es N).length) : (leadU N es N).getD i 0 < N := by
  rw [List.getD_eq_getElem?_getD, List.getElem?_eq_getElem h]
  exact List.mem_range.1 (List.mem_filter.1 (List.getElem_mem h)).1

set_option maxRecDepth 100000 in
set_option maxHeartbeats 16000000 in
theorem iSides_any (N : Nat) (b off n c k f : Nat) (ps : Option Addr) (es : List (Int × Int)) (xs : List Int) (w : World) (hn : es.length = n) (hr : ReadsE w b off es) (g : IsG N es) (hk9 : k ≤ 1048576) (hx : xs.length = k) (hrx : SeesI w ps xs) :
    Calls Try.prog 83 #[.agg #[.int .i64 N, .slice (some ⟨b, off, none⟩) n c], .slice ps k f] w fun e' w' => e' = .returned (.tuple #[.int .i64 (numP N (restE es xs)), .int .i64 (cycU N (restE es xs) N)]) ∧ Below w.heap.size w w' := by
  have hn30 : n ≤ 30 := by have := isG_len g; omega
  have hN4 : N ≤ 20 := by have := g.1.1.2.1; omega
  have Hn := hid hn
  have Hr := hid hr
  have Hx := hid hx
  have Hrx := hid hrx
  have hL30 : (restE es xs).length ≤ 30 := by have := restU_len es xs es.length; unfold restE; omega
  obtain ⟨R, hR⟩ : ∃ R, R = restE es xs := ⟨_, rfl⟩
  have HREQ := hid hR
  have HEI := hid (show EndsIn N R by rw [hR]; exact rest_ends (endsIn_of g))
  have HNE := hid (show ∀ i, i < R.length → eA R i ≠ eB R i by rw [hR]; exact rest_ne (isG_diff g))
  have HNN := hid (isG_twenty g)
  rw [← hR] at hL30 ⊢
  obtain ⟨m, hm⟩ : ∃ m, R.length = m := ⟨_, rfl⟩
  rw [hm] at hL30
  have HM := hid hm
  clear hn hr g hx hrx hR hm
  go_enter Try.func83, Try.ntmps83
  go_wp2_with fail
  refine (iLeft_any N b off n c k f ps es xs _ Hn.out hn30 (Hr.out.on (on_alloc _ _)) Hx.out hk9 (Hrx.out.on (on_alloc _ _))).mono ?_
  rw [← HREQ.out, HM.out]
  rintro e w2 ⟨gl, cR, rfl, hl2, hrd2, hb2⟩
  have HB2 := hid (bfrom (w := w) (on_alloc _ _) hb2)
  have HRd2 := hid hrd2
  clear hb2 hrd2
  have HX3 := hid (Box.new w2 N (some ⟨gl, 0, none⟩) m cR 31)
  go_wp2_with fail
  refine (iParts_any N gl 0 m cR R _ HM.out hL30 (by simp; omega) (HRd2.out.on (on_alloc _ _)) HEI.out HNE.out HNN.out).mono ?_
  rintro e w4 ⟨q, cap, vals, rfl, hP, hb4⟩
  have HP := hid hP
  have HB24 := hid (bfrom (w := w2) (on_alloc _ _) hb4)
  have HB4 := hid (bfrom HB2.out HB24.out)
  have HX4 := hid (HX3.out.on hb4)
  have HRd4 := hid (HRd2.out.on HB24.out)
  clear hb4 hP
  obtain ⟨K, hK⟩ : ∃ K, numP N R = K := ⟨_, rfl⟩
  rw [hK] at HP ⊢
  have hKN : K ≤ N := by rw [← hK]; exact leadU_len N R N
  have HK := hid hK
  have hwz2 := HB24.out.size
  clear hK
  go_wp2
  go_loopw [8, 21] (fun u v wr => ∃ i : Nat, i ≤ K ∧ u = .int .i64 (cycT N R i) ∧ v = .int .i64 i ∧ Hid (Below w4.heap.size w4 wr)) (fun _ v _ => K - (intOf v).toNat)
  case atStart => exact ⟨0, Nat.zero_le _, rfl, rfl, hid (Below.refl _ _)⟩
  case round =>
    obtain ⟨i, hi, rfl, rfl, hB⟩ := hrel
    have hct := cycT_le N R i
    obtain ⟨c1, hc⟩ : ∃ c1, cycT N R i = c1 := ⟨_, rfl⟩
    rw [hc] at hct ⊢
    have HCc := hid hc
    by_cases hlt : i < K
    · have hPr := (HP.out.grown (grown_below hB.out) (fun r e => by cases e)).cell hlt
      obtain ⟨gq, gs, ms, cs, rfl, hcs, hgqz, hms, hos⟩ := hPr
      have hvl := lead_lt (N := N) (es := R) (i := i) (by have := HK.out; unfold numP at this; omega)
      have hstep := cycT_step (N := N) (es := R) (i := i) (by have := HK.out; unfold numP at this; omega)
      obtain ⟨V, hV⟩ : ∃ V, (leadU N R N).getD i 0 = V := ⟨_, rfl⟩
      rw [hV] at hms hos hvl hstep
      have HMs := hid hms
      have HOs := hid hos
      have HStep := hid hstep
      have hmsN : ms ≤ N := by rw [← hms]; exact reachU_len N R V N
      have HXr := hid (HX4.out.on hB.out)
      have hyr := HXr.out.2
      have hzr := HXr.out.lt
      clear hV hms hos hstep hc
      go_wp2
      obtain ⟨wk, rfl⟩ : ∃ wk : World, wk = wr := ⟨_, rfl⟩
      go_loopw [11, 28] (fun u v wr => ∃ j : Nat, j ≤ m ∧ u = .int .i64 (inU N R V j) ∧ v = .int .i64 j ∧ Hid (Below wk.heap.size wk wr)) (fun _ v _ => m - (intOf v).toNat)
      case atStart => exact ⟨0, Nat.zero_le _, rfl, rfl, hid (Below.refl _ _)⟩
      case round =>
        obtain ⟨j, hj, rfl, rfl, hB2⟩ := hrel
        have hin := inU_le N R V j
        obtain ⟨p, hp⟩ : ∃ p, inU N R V j = p := ⟨_, rfl⟩
        rw [hp] at hin ⊢
        have HPp := hid hp
        by_cases hltj : j < m
        · have HBt := hid (hB.out.trans (hB2.out.mono hB.out.size))
          have hrr := HRd4.out.on HBt.out
          have hgl := reads_lt hrr (by have := HM.out; omega)
          have hc1 := (hrr j (by have := HM.out; omega)).1
          have hc2 := (hrr j (by have := HM.out; omega)).2
          rw [Nat.zero_add] at hc1 hc2
          have hej := HEI.out j (by have := HM.out; omega)
          obtain ⟨E, hE⟩ : ∃ E : Nat, eA R j = E := ⟨_, (Int.toNat_of_nonneg hej.1.1).symm⟩
          obtain ⟨Y, hY⟩ : ∃ Y, eB R j = Y := ⟨_, rfl⟩
          rw [hE] at hc1 hej
          rw [hY] at hc2
          have hEN : E < N := by omega
          obtain ⟨rb, hrb⟩ : ∃ rb, reachB N R V E = rb := ⟨_, rfl⟩
          have HD := hid (show decide ((E : Int) ∈ reachU N R V N) = rb by rw [mem_reach hEN, hrb])
          have HRB := hid (show reachB N R V (eA R j).toNat = rb by rw [hE, Int.toNat_natCast, hrb])
          have HOr := hid (HOs.out.on hB2.out)
          obtain ⟨wo, rfl⟩ : ∃ wo : World, wo = wr := ⟨_, rfl⟩
          clear hE hY hej hrb hp hrr
          cases rb
          · go_wp2_with (go_at_call 64; refine (iContains_any _ _ _ _ (reachU N R V N) _ HMs.out (by omega) ((HOr.out.alloc _).sees)).mono ?_; rw [HD.out]; rintro e' w7 ⟨rfl, rfl⟩)
            go_roundw
            case rel => exact ⟨j + 1, by omega, by rw [inU_no HRB.out, HPp.out], by go_num, hid (hB2.out.alloc hB2.out.size _)⟩
            case measure => simp [intOf]; omega
          · go_wp2_with (go_at_call 64; refine (iContains_any _ _ _ _ (reachU N R V N) _ HMs.out (by omega) ((HOr.out.alloc _).sees)).mono ?_; rw [HD.out]; rintro e' w7 ⟨rfl, rfl⟩)
            go_roundw
            case rel => exact ⟨j + 1, by omega, by rw [inU_yes HRB.out, HPp.out]; simp, by go_num, hid (hB2.out.alloc hB2.out.size _)⟩
            case measure => simp [intOf]; omega
        · obtain ⟨wo, rfl⟩ : ∃ wo : World, wo = wr := ⟨_, rfl⟩
          have hjm := hid (show j = m by omega)
          have hhc : hasCyc N R V = decide (ms ≤ p) := by
            have h := HPp.out
            rw [hjm.out] at h
            unfold hasCyc
            rw [HMs.out, HM.out, h]
          have HHC := hid hhc
          have HBt := hid (hB.out.trans (hB2.out.mono hB.out.size))
          clear hp hhc
          by_cases hpp : ms ≤ p
          · have HS := hid (show cycT N R (i + 1) = c1 + 1 by rw [HStep.out, HCc.out, HHC.out]; simp [hpp])
            go_wp2
            go_roundw
            case rel => exact ⟨i + 1, by omega, by rw [HS.out]; simp, by go_num, HBt⟩
            case measure => simp [intOf]; omega
          · have HS := hid (show cycT N R (i + 1) = c1 by rw [HStep.out, HCc.out, HHC.out]; simp [hpp])
            go_wp2
            go_roundw
            case rel => exact ⟨i + 1, by omega, by rw [HS.out], by go_num, HBt⟩
            case measure => simp [intOf]; omega
    · obtain ⟨wo, rfl⟩ : ∃ wo : World, wo = wr := ⟨_, rfl⟩
      have HS := hid (show cycU N R N = c1 by rw [← HCc.out]; exact (cycT_end (by have := HK.out; unfold numP at this; omega)).symm)
      clear hc
      go_wp2
      go_ret2
      refine ⟨?_, bfrom HB4.out hB.out⟩
      rw [HS.out, HK.out]
      rfl

set_option maxRecDepth 100000 in
set_option maxHeartbeats 4000000 in
theorem iCyclic_any (N : Nat) (b off n c k f : Nat) (ps : Option Addr) (es : List (Int × Int)) (xs : List Int) (w : World) (hn : es.length = n) (hr : ReadsE w b off es) (g : IsG N es) (hk9 : k ≤ 1048576) (hx : xs.length = k) (hrx : SeesI w ps xs) :
    Calls Try.prog 81 #[.agg #[.int .i64 N, .slice (some ⟨b, off, none⟩) n c], .slice ps k f] w fun e' w' => e' = .returned (.bool (cycP N es xs)) ∧ Below w.heap.size w w' := by
  have Hn := hid hn
  have Hr := hid hr
  have G := hid g
  have Hx := hid hx
  have Hrx := hid hrx
  obtain ⟨c1, hc1⟩ : ∃ m, cycU N (restE es xs) N = m := ⟨_, rfl⟩
  obtain ⟨r, hrr⟩ : ∃ r, cutE N es xs = r := ⟨_, rfl⟩
  have hcy : cycP N es xs = (decide (2 ≤ c1) && r) := by unfold cycP; rw [hc1, hrr]
  rw [hcy]
  have HC1 := hid hc1
  have HRR := hid hrr
  clear hn hr g hx hrx hc1 hrr hcy
  by_cases h2 : 2 ≤ c1
  · have h2' : decide ((2 : Int) ≤ (c1 : Int)) = true := by simp; omega
    rw [show decide (2 ≤ c1) = true by simpa using h2, Bool.true_and]
    go_enter Try.func81, Try.ntmps81
    go_wp2_with fail
    refine (iSides_any N b off n c k f ps es xs _ Hn.out (Hr.out.on (on_alloc _ _)) G.out hk9 Hx.out (Hrx.out.on (on_alloc _ _))).mono ?_
    rw [HC1.out]
    rintro e w2 ⟨rfl, hb2⟩
    have HB2 := hid (bfrom (w := w) (on_alloc _ _) hb2)
    have hX2 := (Box.new w N (some ⟨b, off, none⟩) n c 31).on hb2
    have hx2 := hX2.1
    have hy2 := hX2.2
    have hz2 := hX2.lt
    clear hX2 hb2
    go_wp2_with (go_at_call 70; refine (iCutB_any N b off n c k f ps es xs _ Hn.out (Hr.out.on HB2.out) G.out hk9 Hx.out (Hrx.out.on HB2.out)).mono ?_; rw [HRR.out]; rintro e' w3 ⟨rfl, hb3⟩; have HB3 := hid (bfrom HB2.out hb3); clear hb3)
    go_ret
    exact ⟨rfl, HB3.out⟩
  · have h2' : decide ((2 : Int) ≤ (c1 : Int)) = false := by simp; omega
    rw [show decide (2 ≤ c1) = false by simpa using h2, Bool.false_and]
    go_enter Try.func81, Try.ntmps81
    go_wp2_with fail
    refine (iSides_any N b off n c k f ps es xs _ Hn.out (Hr.out.on (on_alloc _ _)) G.out hk9 Hx.out (Hrx.out.on (on_alloc _ _))).mono ?_
    rw [HC1.out]
    rintro e w2 ⟨rfl, hb2⟩
    have HB2 := hid (bfrom (w := w) (on_alloc _ _) hb2)
    clear hb2
    go_wp2
    go_ret
    exact ⟨rfl, HB2.out⟩

set_option maxRecDepth 100000 in
set_option maxHeartbeats 2000000 in
theorem iCyc_code (s q0 : Int) (p ps : Option Addr) (n c k f : Nat) (es : List (Int × Int)) (xs : List Int) (w : World) (hm : n ≤ 1048576) (hn : es.length = n) (hr : SeesE w p es) (hk9 : k ≤ 1048576) (hx : xs.length = k) (hrx : SeesI w ps xs) (hq : edgesCode s es xs = q0) (hne : (q0 != 0) = true) :
    Calls Try.prog 47 #[.agg #[.int .i64 s, .slice p n c], .slice ps k f] w fun e' w' => e' = .returned (.tuple #[.bool false, .int .i64 q0]) ∧ Below w.heap.size w w' := by
  have Hn := hid hn
  have Hr := hid hr
  have Hx := hid hx
  have Hrx := hid hrx
  have HQ := hid hq
  clear hn hr hx hrx hq
  go_enter Try.func47, Try.ntmps47
  go_wp2_with fail
  refine (iCodeE_any _ _ _ _ _ _ _ es xs _ hm Hn.out (Hr.out.on (on_alloc _ _)) hk9 Hx.out (Hrx.out.on (on_alloc _ _))).mono ?_
  rw [HQ.out]
  rintro e w2 ⟨rfl, hb2⟩
  have HB2 := hid (bfrom (w := w) (on_alloc _ _) hb2)
  clear hb2
  go_wp2
  go_ret2
  exact ⟨rfl, HB2.out⟩

set_option maxRecDepth 100000 in
set_option maxHeartbeats 4000000 in
theorem iCyc_yes (N : Nat) (b off n c k f : Nat) (ps : Option Addr) (es : List (Int × Int)) (xs : List Int) (w : World) (hn : es.length = n) (hr : ReadsE w b off es) (g : IsG N es) (hk9 : k ≤ 1048576) (hx : xs.length = k) (hrx : SeesI w ps xs) (gs : isSetP n xs) :
    Calls Try.prog 47 #[.agg #[.int .i64 N, .slice (some ⟨b, off, none⟩) n c], .slice ps k f] w fun e' w' => e' = .returned (.tuple #[.bool (cycP N es xs), .int .i64 0]) ∧ Below w.heap.size w w' := by
  have hn30 : n ≤ 30 := by have := isG_len g; omega
  have Hn := hid hn
  have Hr := hid hr
  have G := hid g
  have Hx := hid hx
  have Hrx := hid hrx
  have HQ := hid (show edgesCode N es xs = 0 by unfold edgesCode setCode; rw [if_pos g, hn, if_pos gs])
  clear hn hr g hx hrx gs
  go_enter Try.func47, Try.ntmps47
  go_wp2_with fail
  refine (iCodeE_any _ _ _ _ _ _ _ es xs _ (by omega) Hn.out (SeesE.on (.inr ⟨b, off, rfl, Hr.out⟩) (on_alloc _ _)) hk9 Hx.out (Hrx.out.on (on_alloc _ _))).mono ?_
  rw [HQ.out]
  rintro e w3 ⟨rfl, hb3⟩
  have HB3 := hid (bfrom (w := w) (on_alloc _ _) hb3)
  have hX3 := (Box.new w N (some ⟨b, off, none⟩) n c 31).on hb3
  have hx3 := hX3.1
  have hy3 := hX3.2
  have hz3 := hX3.lt
  clear hX3 hb3
  go_wp2_with fail
  refine (iCyclic_any N b off n c k f ps es xs _ Hn.out (Hr.out.on HB3.out) G.out hk9 Hx.out (Hrx.out.on HB3.out)).mono ?_
  rintro e w4 ⟨rfl, hb4⟩
  have HB4 := hid (bfrom HB3.out hb4)
  clear hx3 hy3 hz3 hb4
  go_wp2
  go_ret2
  exact ⟨rfl, HB4.out⟩

theorem iIsCyclicCut_any (s : Int) (p : Option Addr) (n c : Nat) (es : List (Int × Int)) (ps : Option Addr) (k f : Nat) (xs : List Int) (w : World) (hm : n ≤ 1048576) (hn : es.length = n) (hr : SeesE w p es) (hk : k ≤ 1048576) (hx : xs.length = k) (hrx : SeesI w ps xs) :
    Calls Try.prog 47 #[.agg #[.int .i64 s, .slice p n c], .slice ps k f] w fun e' w' => e' = .returned (.tuple #[.bool (fIsCyclicCut s es xs).1, .int .i64 (fIsCyclicCut s es xs).2]) ∧ Below w.heap.size w w' := by
  unfold fIsCyclicCut
  by_cases g : IsG s es
  · rw [if_pos g]
    obtain ⟨N, rfl⟩ : ∃ N : Nat, s = N := ⟨_, (Int.toNat_of_nonneg (by have := g.1.1.1; omega)).symm⟩
    rw [Int.toNat_natCast]
    by_cases gs : isSetP es.length xs
    · rw [if_pos gs]
      obtain ⟨b, off, rfl, rd⟩ := isG_sees g hr
      exact iCyc_yes N b off n c k f ps es xs w hn rd g hk hx hrx (by rw [← hn]; exact gs)
    · rw [if_neg gs]
      exact iCyc_code N 2 p ps n c k f es xs w hm hn hr hk hx hrx (by unfold edgesCode setCode; rw [if_pos g, if_neg gs]) rfl
  · rw [if_neg g]
    exact iCyc_code s 1 p ps n c k f es xs w hm hn hr hk hx hrx (by unfold edgesCode; rw [if_neg g]) rfl

end Go.Proofs.Ytafhpldcpgjpjaa
