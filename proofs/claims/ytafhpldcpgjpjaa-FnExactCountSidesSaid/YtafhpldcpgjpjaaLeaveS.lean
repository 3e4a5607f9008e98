/- EdgesLeaving in the model. -/
import Derived.Test.YtafhpldcpgjpjaaSpecAt
import Derived.Test.YtafhpldcpgjpjaaSpecD
import Derived.Test.YtafhpldcpgjpjaaLeaveA
namespace Go.Proofs.Ytafhpldcpgjpjaa
open Go.RowKit

theorem infoBl : (Try.prog.info? 4).map (fun i => (i.zero, i.size, i.bytes)) = some (some (.bool false), 1, 1) := by kernel_rfl
theorem row_drewN {w : World} {n B m : Nat} {t : TypeId} {sz : Nat} {v : Value} {xs : List Value} (h : w.ownsRow B t sz v m xs) : (w.drewN n).ownsRow B t sz v m xs := h
theorem grown_drewN {w w' : World} {n : Nat} {row : Option Nat} (h : (w.drewN n).grownBy w' row) : ∀ k, k < w.heap.size → some k ≠ row → w'.heap[k]? = w.heap[k]? := fun k hk hn => h.block k hk hn

def setCode (N : Int) (xs : List Int) : Int := if isSetP N xs then 0 else 2

set_option maxRecDepth 100000 in
set_option maxHeartbeats 4000000 in
theorem sSet_any (q : Option Addr) (k c N : Nat) (xs : List Int) (w : World) (hN1 : 1 ≤ N) (hN2 : N ≤ 30) (hx : xs.length = k) (hk9 : k ≤ 1048576) (hr : SeesI w q xs) :
    Calls Try.prog 71 #[.slice q k c, .int .i64 N] w fun e w' => e = .returned (.int .i64 (setCode N xs)) ∧ Below w.heap.size w w' := by
  have Hx := hid hx
  have Hr := hid hr
  have hk99 : k ≤ 9223372036854775807 := by omega
  obtain ⟨r, hR⟩ : ∃ r, r = setCode N xs := ⟨_, rfl⟩
  rw [← hR]
  have HR := hid hR
  clear hx hr hR
  go_enter Try.func71, Try.ntmps71
  go_wp2
  go_loopw [5] (fun i wr => ∃ i' : Nat, i' ≤ k ∧ i = .int .i64 i' ∧ Hid (∀ j, j < i' → okSet N xs j) ∧ Hid (Below w.heap.size w wr)) (fun i _ => k - (intOf i).toNat)
  case atStart => exact ⟨0, Nat.zero_le _, rfl, hid (fun i hi => by omega), hid (Below.refl _ _)⟩
  case round =>
    obtain ⟨i, hi, rfl, hD, hB⟩ := hrel
    by_cases hlt : i < k
    · obtain ⟨sb, so, rfl, hrd⟩ : ∃ sb so, q = some ⟨sb, so, none⟩ ∧ ReadsI w sb so xs := by
        rcases Hr.out with h | h
        · have := Hx.out; rw [h] at this; simp at this; omega
        · exact h
      have HRD := hid (hrd.on hB.out)
      have hsb := HRD.out.lt (by have := Hx.out; omega)
      have hc1 := HRD.out i (by have := Hx.out; omega)
      obtain ⟨x, hx⟩ : ∃ x, eI xs i = x := ⟨_, rfl⟩
      rw [hx] at hc1
      have HX := hid hx
      clear hx hrd
      obtain ⟨wo, rfl⟩ : ∃ wo : World, wo = wr := ⟨_, rfl⟩
      by_cases g1 : 0 ≤ x ∧ x ≤ (N : Int) - 1
      · have G1 := hid g1
        clear g1
        by_cases i1 : i = 0
        · subst i1
          rw [Nat.add_zero] at hc1
          go_wp2
          go_quiet ((go_at_call 91; exact quiet_same (sIn_yes _ _ _ _ G1.out)))
          go_wp2
          go_roundw
          case rel =>
            refine ⟨1, by omega, rfl, hid (fun j hj => ?_), hid (bdn.mpr hB.out)⟩
            obtain rfl : j = 0 := by omega
            exact ⟨by rw [HX.out]; have := G1.out; omega, fun h => by omega⟩
          case measure => simp [intOf]; omega
        · obtain ⟨j, rfl⟩ : ∃ j, i = j + 1 := ⟨i - 1, by omega⟩
          have hc3 := HRD.out j (by have := Hx.out; omega)
          obtain ⟨y, hy⟩ : ∃ y, eI xs j = y := ⟨_, rfl⟩
          rw [hy] at hc3
          have HY := hid hy
          have hpos : decide ((0 : Int) < (j : Int) + 1) = true := by simp
          have e1 : (0 : Int) ≤ (j : Int) + 1 := by omega
          have e2 : (j : Int) + 1 < (k : Int) := by omega
          have e3 : ((j : Int) + 1).toNat = j + 1 := by omega
          have e4 : j < k := by omega
          have e5 : IntKind.i64.wrap (j : Int) = (j : Int) := IntWalk.i64_in _ (by omega)
          clear i1 hy
          by_cases g2 : x ≤ y
          · have g2' : decide (x ≤ y) = true := by simpa using g2
            have G2 := hid g2
            clear g2
            go_wp2
            go_quiet ((go_at_call 91; exact quiet_same (sIn_yes _ _ _ _ G1.out)))
            go_wp2
            go_ret
            refine ⟨?_, by simp only [bdn]; exact hB.out⟩
            rw [HR.out, setCode, if_neg (fun h => by have h1 := (h (j + 1) (by have := Hx.out; omega)).2 (by omega); rw [HX.out, Nat.add_sub_cancel, HY.out] at h1; have := G2.out; omega)]
            rfl
          · have g2' : decide (x ≤ y) = false := by simpa using g2
            have G2 := hid g2
            clear g2
            go_wp2
            go_quiet ((go_at_call 91; exact quiet_same (sIn_yes _ _ _ _ G1.out)))
            go_wp2
            go_roundw
            case rel =>
              refine ⟨j + 1 + 1, by omega, by go_num, hid (fun j' hj => ?_), hid (bdn.mpr hB.out)⟩
              rcases Nat.lt_or_ge j' (j + 1) with h | h
              · exact hD.out j' h
              · obtain rfl : j' = j + 1 := by omega
                exact ⟨by rw [HX.out]; have := G1.out; omega, fun _ => by rw [HX.out, Nat.add_sub_cancel, HY.out]; have := G2.out; omega⟩
            case measure => simp [intOf]; omega
      · have g1' : x < 0 ∨ (N : Int) - 1 < x := by omega
        have G1 := hid g1'
        clear g1 g1'
        go_wp2
        go_quiet ((go_at_call 91; exact quiet_same (sIn_no _ _ _ _ G1.out)))
        go_wp2
        go_ret
        refine ⟨?_, by simp only [bdn]; exact hB.out⟩
        rw [HR.out, setCode, if_neg (fun h => by have h1 := (h i (by have := Hx.out; omega)).1; rw [HX.out] at h1; have := G1.out; omega)]
        rfl
    · obtain rfl : i = k := by omega
      go_wp2
      go_ret
      refine ⟨?_, hB.out⟩
      rw [HR.out, setCode, if_pos (show isSetP N xs from fun j hj => hD.out j (by have := Hx.out; omega))]
      rfl

set_option maxRecDepth 100000 in
set_option maxHeartbeats 8000000 in
theorem sLeaving_any (N : Nat) (b off n c k f : Nat) (ps : Option Addr) (es : List (Int × Int)) (xs : List Int) (w : World) (hn : es.length = n) (hr : ReadsE w b off es) (hx : xs.length = k) (hk9 : k ≤ 1048576) (hrx : SeesI w ps xs) (g : IsG N es) (gs : isSetP N xs) :
    Calls Try.prog 72 #[.agg #[.int .i64 N, .slice (some ⟨b, off, none⟩) n c], .slice ps k f] w fun e' w' => ∃ q cap, e' = .returned (.slice q (leaveU es xs n).length cap) ∧ FreshI w.heap.size w' q (leaveU es xs n).length cap (leaveU es xs n) ∧ Below w.heap.size w w' := by
  have hn30 : n ≤ 30 := by have := isG_len g; omega
  have hN4 : N ≤ 20 := by have := g.1.1.2.1; omega
  have Hn := hid hn
  have Hr := hid hr
  have Hx := hid hx
  have Hrx := hid hrx
  have G := hid g
  have GS := hid gs
  have hk99 : k ≤ 9223372036854775807 := by omega
  obtain ⟨i0, hi, hz0, hz1, hz2⟩ := info_parts infoBl
  obtain ⟨j0, hj, hy0, hy1, hy2⟩ := info_parts infoInt
  have Hi := hid hi
  have Hj := hid hj
  clear hn hr hx hrx g gs hi hj
  go_enter Try.func72, Try.ntmps72
  have hX0 := Box.new w N (some ⟨b, off, none⟩) n c 31
  have hx0 := hX0.1
  have HX0 := hid hX0
  have HB0 := hid (on_alloc w (.cells #[.int .i64 N, .slice (some ⟨b, off, none⟩) n c] 31))
  obtain ⟨w2, hw2⟩ : ∃ w2, w2 = w.alloc (.cells #[.int .i64 N, .slice (some ⟨b, off, none⟩) n c] 31) := ⟨_, rfl⟩
  rw [← hw2] at hx0 HX0 HB0
  have hz2' := HX0.out.lt
  go_wp2_with (at_make; rw [← hw2]; clear hw2; refine wpList_make_full _ rfl _ _ 90 rfl w2.heap.size 4 i0 (.bool false) 1 Try.underlying90 Hi.out hz0 hz1 _ _ _ _ N rfl rfl rfl rfl (by rw [hz2]; omega) (by unfold maxLen; omega) (Nat.le_refl _) ?_; intro w3 hown hgrow)
  have Ho := hid (OwnB.made hown)
  have Hb3 := hid ((Below.refl w2.heap.size w2).grown hgrow (Nat.le_refl _) (fun k e => by cases e))
  have HX3 := hid (HX0.out.on Hb3.out)
  have hz3 : w2.heap.size < w3.heap.size := Ho.out.lt
  clear hown hgrow hx0 hz2'
  obtain ⟨w4, hw4⟩ : ∃ w4, w4 = w3.alloc (.cells #[] 2) := ⟨_, rfl⟩
  rw [← hw4]
  have hz4 : w4.heap.size = w3.heap.size + 1 := by rw [hw4]; simp
  have HZ4 := hid hz4
  have HB4 := hid (show Below w3.heap.size w3 w4 by rw [hw4]; exact on_alloc _ _)
  have HO4 := hid (show w4.ownsRow w3.heap.size 2 1 (.slice (some ⟨w3.heap.size, 0, none⟩) 0 0) 0 (intVals (leaveU es xs 0)) by rw [hw4]; exact World.ownsRow_made (base := w3.heap.size) (e := 2) (size := 1) w3 #[] 0 (Nat.le_refl _) (Nat.zero_le _) rfl)
  clear hz4 hw4
  go_loopw [7] (fun i wr => ∃ (i' : Nat) (ms : List Bool), i' ≤ k ∧ i = .int .i64 i' ∧ Hid (ms.length = N ∧ (∀ v, v < N → eL ms v = decide ((v : Int) ∈ xs.take i')) ∧ OwnB wr w2.heap.size N ms) ∧ Hid (Below w2.heap.size w2 wr ∧ wr.ownsRow w3.heap.size 2 1 (.slice (some ⟨w3.heap.size, 0, none⟩) 0 0) 0 (intVals (leaveU es xs 0)))) (fun i _ => k - (intOf i).toNat)
  case atStart => exact ⟨0, _, Nat.zero_le _, rfl, hid ⟨List.length_replicate, fun v hv => by rw [eL_lt (by simpa using hv)]; simp, Ho.out.on HB4.out⟩, hid ⟨bfrom Hb3.out HB4.out, HO4.out⟩⟩
  case round =>
    obtain ⟨i, ms, hi, rfl, hC, hB⟩ := hrel
    have HXr := hid (HX0.out.on hB.out.1)
    have hxr := HXr.out.1
    have hyr := HXr.out.2
    have hzr := HXr.out.lt
    by_cases hlt : i < k
    · obtain ⟨sb, so, rfl, hrd⟩ : ∃ sb so, ps = some ⟨sb, so, none⟩ ∧ ReadsI w sb so xs := by
        rcases Hrx.out with h | h
        · have := Hx.out; rw [h] at this; simp at this; omega
        · exact h
      have HRD := hid ((hrd.on HB0.out).on hB.out.1)
      have hsb := HRD.out.lt (by have := Hx.out; omega)
      have hc1 := HRD.out i (by have := Hx.out; omega)
      obtain ⟨X, hX⟩ : ∃ X : Nat, eI xs i = X := ⟨_, (Int.toNat_of_nonneg (GS.out i (by have := Hx.out; omega)).1.1).symm⟩
      have hXm : X < N := by have := (GS.out i (by have := Hx.out; omega)).1.2; omega
      have hXm' : (X : Int) < (N : Int) := by omega
      rw [hX] at hc1
      have HX := hid hX
      clear hX hrd
      have hcm := hC.out.2.2.cell (i := X) (by have := hC.out.1; omega)
      have hfm := hC.out.2.2.free X
      have hgz := hC.out.2.2.lt
      go_wp2
      go_roundw
      case rel =>
        exact ⟨i + 1, ms.set X true, by omega, by go_num, hid ⟨by rw [List.length_set]; exact hC.out.1, met_step (by have := Hx.out; omega) hC.out.1 HX.out hXm hC.out.2.1, OwnB.set hC.out.2.2 (by have := hC.out.1; omega) _⟩, hid ⟨hB.out.1.setCell (p := ⟨w2.heap.size, X, none⟩) (Nat.le_refl _) _, ownsRow_setCell_below hB.out.2 hz3 _⟩⟩
      case measure => simp [intOf]; omega
    · obtain rfl : i = k := by omega
      have hms : Hid (∀ v, v < N → eL ms v = decide ((v : Int) ∈ xs)) := hid (fun v hv => by have h := hC.out.2.1 v hv; rw [List.take_of_length_le (by have := Hx.out; omega)] at h; exact h)
      obtain ⟨wk, rfl⟩ : ∃ wk : World, wk = wr := ⟨_, rfl⟩
      have hk3 : w3.heap.size < wk.heap.size := by have := hB.out.2.lt w3.heap.size rfl; omega
      go_wp2
      go_loopw [6, 8] (fun u ee wr => ∃ (e l cap : Nat) (q : Option Addr), e ≤ n ∧ l ≤ e ∧ u = .slice q l cap ∧ ee = .int .i64 e ∧ Hid (wr.ownsRow w3.heap.size 2 1 (.slice q l cap) l (intVals (leaveU es xs e)) ∧ (leaveU es xs e).length = l) ∧ Hid (Below w3.heap.size wk wr)) (fun _ ee _ => n - (intOf ee).toNat)
      case atStart => exact ⟨0, 0, 0, _, Nat.zero_le _, Nat.le_refl _, rfl, rfl, hid ⟨hB.out.2, rfl⟩, hid (Below.refl _ _)⟩
      case round =>
        obtain ⟨e, l, cap, q, he, hle, rfl, rfl, hO, hBe⟩ := hrel
        have HB2 := hid (hB.out.1.trans (hBe.out.mono (by omega)))
        have HBw := hid (bfrom HB0.out HB2.out)
        have HXe := hid (HX0.out.on HB2.out)
        have hxe := HXe.out.1
        have hye := HXe.out.2
        have hze := HXe.out.lt
        by_cases hlt : e < n
        · have HM := hid (hC.out.2.2.below hBe.out hz3)
          have hmz := HM.out.lt
          have hbb : b < w.heap.size := reads_lt Hr.out (by have := Hn.out; omega)
          have hbe : b < wr.heap.size := by have := HBw.out.size; omega
          have hc1 := (Hr.out.on HBw.out e (by have := Hn.out; omega)).1
          have hc2 := (Hr.out.on HBw.out e (by have := Hn.out; omega)).2
          have hok := G.out.1.2 e (by have := Hn.out; omega)
          obtain ⟨X, hX1⟩ : ∃ X : Nat, eA es e = X := ⟨_, (Int.toNat_of_nonneg hok.1).symm⟩
          obtain ⟨Y, hY1⟩ : ∃ Y : Nat, eB es e = Y := ⟨_, (Int.toNat_of_nonneg hok.2.2.1).symm⟩
          have hXN : X < N := by have := hok.2.1; omega
          have hYN : Y < N := by have := hok.2.2.2.1; omega
          have hXN' : (X : Int) < (N : Int) := by omega
          have hYN' : (Y : Int) < (N : Int) := by omega
          rw [hX1] at hc1
          rw [hY1] at hc2
          have hm1 := HM.out.cell (i := X) (by have := hC.out.1; omega)
          have hm2 := HM.out.cell (i := Y) (by have := hC.out.1; omega)
          have hx1 := hms.out X hXN
          have hx2 := hms.out Y hYN
          obtain ⟨p1, hp1⟩ : ∃ p1, eL ms X = p1 := ⟨_, rfl⟩
          obtain ⟨p2, hp2⟩ : ∃ p2, eL ms Y = p2 := ⟨_, rfl⟩
          rw [hp1] at hm1 hx1
          rw [hp2] at hm2 hx2
          have hcut : leaveB es xs e = (p1 != p2) := by unfold leaveB; rw [hX1, hY1, ← hx1, ← hx2]
          have HCut := hid hcut
          have hl63 : l + 1 ≤ 31 := by omega
          have hwk3 : w3.heap.size < wr.heap.size := by have := hBe.out.size; omega
          clear hX1 hY1 hok hp1 hp2 hx1 hx2 hcut
          obtain ⟨wo, rfl⟩ : ∃ wo : World, wo = wr := ⟨_, rfl⟩
          rcases p1 with _ | _ <;> rcases p2 with _ | _
          case false.false | true.true =>
            go_wp2
            go_quiet (fail)
            go_wp2
            go_roundw
            case rel => exact ⟨e + 1, l, cap, q, by omega, by omega, rfl, by go_num, hid (by rw [leaveU_no (by rw [HCut.out]; rfl)]; exact hO.out), hid (bdn.mpr hBe.out)⟩
            case measure => simp [intOf]; omega
          case false.true | true.false =>
            go_wp2
            go_quiet (fail)
            go_wp2_with (at_builtin; go_must (refine wpList_append_lies _ rfl (.tmp 51) (.tmp 53) 44 rfl w3.heap.size 2 j0 (.int .i64 0) 1 8 Try.underlying44 Hj.out hy0 hy1 hy2 rfl (by decide) (.slice q l cap) l _ rfl ((row_drewN hO.out.1).alloc _) ⟨wo.heap.size, 0, none⟩ 1 1 [.int .i64 e] rfl rfl (World.news_of_block (cs := #[.int .i64 e]) (t := 2) (fr := (0, 0)) (heap_alloc_new _ _)) (by simp [Value.oneCell']) (by decide) (by unfold maxLen; omega) (by omega) (by simp; omega) (wo.heap.size + 1) (by simp) ?_); intro g cap' w5 hown1 hgrow1 hlie hg1; have Hown := hid hown1; have Hgrow := hid hgrow1; clear hown1 hgrow1 hlie)
            have hrow : ∀ j, (Value.slice q l cap).ownBlock = some j → w3.heap.size ≤ j ∧ j < wo.heap.size := hO.out.1.lt
            go_roundw
            case rel =>
              refine ⟨e + 1, l + 1, cap', some ⟨g, 0, none⟩, by omega, by omega, rfl, by go_num, hid ⟨?_, ?_⟩, hid ?_⟩
              · rw [leaveU_yes (by rw [HCut.out]; rfl), intVals_append]; exact Hown.out
              · rw [leaveU_yes (by rw [HCut.out]; rfl), List.length_append, hO.out.2]; rfl
              · exact ((bdn.mpr hBe.out).alloc (show w3.heap.size ≤ wo.heap.size by omega) _).grown Hgrow.out (by simp; have := hBe.out.size; omega) (fun j hj => by have := (hrow j hj).1; omega)
            case measure => simp [intOf]; omega
        · obtain rfl : e = n := by omega
          go_wp2
          go_ret
          obtain ⟨ho1, rfl⟩ := hO.out
          exact ⟨q, cap, rfl, FreshI.less ⟨ho1, rfl⟩ (by have := HB0.out.size; omega), bfrom HB0.out (hB.out.1.trans (hBe.out.mono (by omega)))⟩

set_option maxRecDepth 100000 in
set_option maxHeartbeats 2000000 in
theorem sLeave_none (s : Int) (p ps : Option Addr) (n c k f : Nat) (es : List (Int × Int)) (w : World) (hn : es.length = n) (hm : n ≤ 1048576) (hr : SeesE w p es) (g : ¬ IsG s es) :
    Calls Try.prog 39 #[.agg #[.int .i64 s, .slice p n c], .slice ps k f] w fun e' w' => e' = .returned (.tuple #[.slice none 0 0, .int .i64 1]) ∧ Below w.heap.size w w' := by
  have Hn := hid hn
  have Hr := hid hr
  have G := hid g
  have hm9 : n ≤ 9223372036854775807 := by omega
  clear hn hr g
  go_enter Try.func39, Try.ntmps39
  go_wp2_with fail
  refine (sIs_any _ _ _ _ es _ hm9 Hn.out (Hr.out.on (on_alloc _ _))).mono ?_
  rw [decide_eq_false G.out]
  rintro e w2 ⟨rfl, hb2⟩
  have hB2 := bfrom (w := w) (by go_grown) hb2
  go_wp2
  go_ret2
  exact ⟨rfl, hB2⟩

set_option maxRecDepth 100000 in
set_option maxHeartbeats 4000000 in
theorem sLeave_set (N : Nat) (b off n c k f : Nat) (ps : Option Addr) (es : List (Int × Int)) (xs : List Int) (w : World) (hn : es.length = n) (hr : ReadsE w b off es) (hx : xs.length = k) (hk9 : k ≤ 1048576) (hrx : SeesI w ps xs) (g : IsG N es) (gs : ¬ isSetP N xs) :
    Calls Try.prog 39 #[.agg #[.int .i64 N, .slice (some ⟨b, off, none⟩) n c], .slice ps k f] w fun e' w' => e' = .returned (.tuple #[.slice none 0 0, .int .i64 2]) ∧ Below w.heap.size w w' := by
  have hn30 : n ≤ 30 := by have := isG_len g; omega
  have hN2 : 1 ≤ N := by have := g.1.1.1; omega
  have hN4 : N ≤ 30 := by have := g.1.1.2.1; omega
  have Hn := hid hn
  have Hr := hid hr
  have Hx := hid hx
  have Hrx := hid hrx
  have G := hid g
  have hcd : setCode N xs = 2 := by unfold setCode; rw [if_neg gs]
  have HC := hid hcd
  clear hn hr hx hrx g gs hcd
  go_enter Try.func39, Try.ntmps39
  go_wp2_with fail
  refine (sIs_any _ _ _ _ es _ (by omega) Hn.out (SeesE.on (.inr ⟨b, off, rfl, Hr.out⟩) (on_alloc _ _))).mono ?_
  rw [decide_eq_true G.out]
  rintro e w2 ⟨rfl, hb2⟩
  have hB2 := bfrom (w := w) (on_alloc _ _) hb2
  have hX2 : Box w2 w.heap.size N (some ⟨b, off, none⟩) n c := (Box.new w (N : Int) (some ⟨b, off, none⟩) n c 31).on hb2
  have hx2 := hX2.1
  have hz2' := hX2.lt
  have HB2 := hid hB2
  clear hb2 hX2 hB2
  go_wp2_with fail
  refine (sSet_any _ _ _ _ xs _ hN2 hN4 Hx.out hk9 (Hrx.out.on HB2.out)).mono ?_
  rw [HC.out]
  rintro e w3 ⟨rfl, hb3⟩
  have hB3 := bfrom HB2.out hb3
  clear hx2 hz2' hb3
  go_wp2
  go_ret2
  exact ⟨rfl, hB3⟩

set_option maxRecDepth 100000 in
set_option maxHeartbeats 4000000 in
theorem sLeave_yes (N : Nat) (b off n c k f : Nat) (ps : Option Addr) (es : List (Int × Int)) (xs : List Int) (w : World) (hn : es.length = n) (hr : ReadsE w b off es) (hx : xs.length = k) (hk9 : k ≤ 1048576) (hrx : SeesI w ps xs) (g : IsG N es) (gs : isSetP N xs) :
    Calls Try.prog 39 #[.agg #[.int .i64 N, .slice (some ⟨b, off, none⟩) n c], .slice ps k f] w fun e' w' => ∃ q cap, e' = .returned (.tuple #[.slice q (leaveU es xs n).length cap, .int .i64 0]) ∧ FreshI w.heap.size w' q (leaveU es xs n).length cap (leaveU es xs n) ∧ Below w.heap.size w w' := by
  have hn30 : n ≤ 30 := by have := isG_len g; omega
  have hN2 : 1 ≤ N := by have := g.1.1.1; omega
  have hN4 : N ≤ 30 := by have := g.1.1.2.1; omega
  have Hn := hid hn
  have Hr := hid hr
  have Hx := hid hx
  have Hrx := hid hrx
  have G := hid g
  have GS := hid gs
  have hcd : setCode N xs = 0 := by unfold setCode; rw [if_pos gs]
  have HC := hid hcd
  clear hn hr hx hrx g gs hcd
  go_enter Try.func39, Try.ntmps39
  go_wp2_with fail
  refine (sIs_any _ _ _ _ es _ (by omega) Hn.out (SeesE.on (.inr ⟨b, off, rfl, Hr.out⟩) (on_alloc _ _))).mono ?_
  rw [decide_eq_true G.out]
  rintro e w2 ⟨rfl, hb2⟩
  have hB2 := bfrom (w := w) (on_alloc _ _) hb2
  have hX2 : Box w2 w.heap.size N (some ⟨b, off, none⟩) n c := (Box.new w (N : Int) (some ⟨b, off, none⟩) n c 31).on hb2
  have hx2 := hX2.1
  have hz2' := hX2.lt
  have HB2 := hid hB2
  have HX2 := hid hX2
  clear hb2 hX2 hB2
  go_wp2_with fail
  refine (sSet_any _ _ _ _ xs _ hN2 hN4 Hx.out hk9 (Hrx.out.on HB2.out)).mono ?_
  rw [HC.out]
  rintro e w3 ⟨rfl, hb3⟩
  have HB3 := hid (bfrom HB2.out hb3)
  have HX3 := hid (HX2.out.on hb3)
  have hx3 := HX3.out.1
  have hy3 := HX3.out.2
  have hz3' := HX3.out.lt
  clear hx2 hz2' hb3
  go_wp2_with fail
  refine (sLeaving_any N b off n c k f ps es xs _ Hn.out (Hr.out.on HB3.out) Hx.out hk9 (Hrx.out.on HB3.out) G.out GS.out).mono ?_
  rintro e w4 ⟨q, cap, rfl, hf4, hb4⟩
  go_wp2
  go_ret2
  exact ⟨q, cap, rfl, hf4.less (by have := HB3.out.size; omega), bfrom HB3.out hb4⟩

theorem sEdgesLeaving_any (s : Int) (p : Option Addr) (n c : Nat) (es : List (Int × Int)) (ps : Option Addr) (k f : Nat) (xs : List Int) (w : World) (hm : n ≤ 1048576) (hn : es.length = n) (hr : SeesE w p es) (hk : k ≤ 1048576) (hx : xs.length = k) (hrx : SeesI w ps xs) :
    Calls Try.prog 39 #[.agg #[.int .i64 s, .slice p n c], .slice ps k f] w fun e' w' => ∃ q cap, e' = .returned (.tuple #[.slice q (fEdgesLeaving s es xs).1.length cap, .int .i64 (fEdgesLeaving s es xs).2]) ∧ FreshI w.heap.size w' q (fEdgesLeaving s es xs).1.length cap (fEdgesLeaving s es xs).1 ∧ Below w.heap.size w w' := by
  unfold fEdgesLeaving
  by_cases g : IsG s es
  · rw [if_pos g]
    obtain ⟨b, off, rfl, rd⟩ := isG_sees g hr
    obtain ⟨N, rfl⟩ : ∃ N : Nat, s = N := ⟨_, (Int.toNat_of_nonneg (by have := g.1.1.1; omega)).symm⟩
    by_cases gs : isSetP N xs
    · rw [if_pos gs, hn]
      exact sLeave_yes N b off n c k f ps es xs w hn rd hx hk hrx g gs
    · rw [if_neg gs]
      exact (sLeave_set N b off n c k f ps es xs w hn rd hx hk hrx g gs).mono fun e w' ⟨he, hb⟩ => ⟨none, 0, he, FreshI.nil _ _, hb⟩
  · rw [if_neg g]
    exact (sLeave_none s p ps n c k f es w hn hm hr g).mono fun e w' ⟨he, hb⟩ => ⟨none, 0, he, FreshI.nil _ _, hb⟩

end Go.Proofs.Ytafhpldcpgjpjaa
