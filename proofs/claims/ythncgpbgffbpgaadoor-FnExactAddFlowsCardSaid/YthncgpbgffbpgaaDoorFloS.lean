/- Flows in the model: codes, what flows to the vertices, tests. -/
import Derived.Test.YthncgpbgffbpgaaDoorSpecC
import Derived.Test.YthncgpbgffbpgaaDoorLawsF
import Derived.Test.YthncgpbgffbpgaaDoorFloA
import Derived.Test.YthncgpbgffbpgaaDoorOwnMore
import Derived.BigQuiet
namespace Go.Proofs.YthncgpbgffbpgaaDoor
open Go.RowKit

set_option maxRecDepth 100000 in
set_option maxHeartbeats 2000000 in
theorem sFCode_any (s : Int) (p : Option Addr) (n c : Nat) (es : List (Int × Int)) (m : Int) (w : World) (hm : n ≤ 1048576) (hn : es.length = n) (hr : SeesE w p es) :
    Calls Tryd.prog 36 #[.agg #[.int .i64 s, .slice p n c], .int .i64 m] w fun e' w' => e' = .returned (.int .i64 (modCode s es m)) ∧ Below w.heap.size w w' := by
  unfold modCode
  have Hn := hid hn
  have Hr := hid hr
  have hm9 : n ≤ 9223372036854775807 := by omega
  by_cases g : IsG s es
  · have G := hid g
    rw [if_pos g]
    clear hn hr g
    by_cases h : okMod m
    · have H := hid h
      rw [if_pos h]
      clear h
      go_enter Tryd.func36, Tryd.ntmps36
      go_wp2_with fail
      refine (sIs_any _ _ _ _ es _ hm9 Hn.out (Hr.out.on (on_alloc _ _))).mono ?_
      rw [decide_eq_true G.out]
      rintro e w2 ⟨rfl, hb2⟩
      have hB2 := bfrom (w := w) (by go_grown) hb2
      go_wp2_with (go_at_call 33; refine (sIn_yes _ _ _ _ H.out).mono ?_; rintro e w' ⟨rfl, rfl⟩)
      go_ret
      exact ⟨rfl, hB2⟩
    · have H := hid (show m < 2 ∨ 6 < m by unfold okMod at h; omega)
      rw [if_neg h]
      clear h
      go_enter Tryd.func36, Tryd.ntmps36
      go_wp2_with fail
      refine (sIs_any _ _ _ _ es _ hm9 Hn.out (Hr.out.on (on_alloc _ _))).mono ?_
      rw [decide_eq_true G.out]
      rintro e w2 ⟨rfl, hb2⟩
      have hB2 := bfrom (w := w) (by go_grown) hb2
      go_wp2_with (go_at_call 33; refine (sIn_no _ _ _ _ H.out).mono ?_; rintro e w' ⟨rfl, rfl⟩)
      go_ret
      exact ⟨rfl, hB2⟩
  · have G := hid g
    rw [if_neg g]
    clear hn hr g
    go_enter Tryd.func36, Tryd.ntmps36
    go_wp2_with fail
    refine (sIs_any _ _ _ _ es _ hm9 Hn.out (Hr.out.on (on_alloc _ _))).mono ?_
    rw [decide_eq_false G.out]
    rintro e w2 ⟨rfl, hb2⟩
    have hB2 := bfrom (w := w) (by go_grown) hb2
    go_wp2
    go_ret
    exact ⟨rfl, hB2⟩

set_option maxRecDepth 100000 in
set_option maxHeartbeats 4000000 in
theorem sFList_any (s : Int) (p : Option Addr) (n c : Nat) (es : List (Int × Int)) (m : Int) (ps : Option Addr) (k f : Nat) (xs : List Int) (lo up : Int) (w : World) (hm : n ≤ 1048576) (hn : es.length = n) (hr : SeesE w p es) (hk9 : k ≤ 1048576) (hx : xs.length = k) (hrx : SeesI w ps xs) :
    Calls Tryd.prog 24 #[.agg #[.int .i64 s, .slice p n c], .int .i64 m, .slice ps k f, .int .i64 lo, .int .i64 up] w fun e' w' => e' = .returned (.int .i64 (flCode s es m lo up xs)) ∧ Below w.heap.size w w' := by
  have Hn := hid hn
  have Hr := hid hr
  have Hx := hid hx
  have Hrx := hid hrx
  have hm9 : n ≤ 9223372036854775807 := by omega
  have hk99 : k ≤ 9223372036854775807 := by omega
  unfold flCode
  by_cases h0 : modCode s es m = 0
  · rw [if_pos h0]
    have H0 := hid h0
    by_cases h1 : xs.length = es.length
    · obtain ⟨r, hR⟩ : ∃ r, r = lstCode es lo up xs := ⟨_, rfl⟩
      rw [← hR]
      have HR := hid hR
      have hkn : k = n := by omega
      subst hkn
      have h1' : ((k : Int) != (k : Int)) = false := by simp
      have H1 := hid h1
      clear hn hr hx hrx h0 h1 hR
      go_enter Tryd.func24, Tryd.ntmps24
      go_wp2_with fail
      refine (sFCode_any _ _ _ _ es m _ hm Hn.out (Hr.out.on (on_alloc _ _))).mono ?_
      rw [H0.out]
      rintro e w2 ⟨rfl, hb2⟩
      have hB2 := bfrom (w := w) (by go_grown) hb2
      have hX2 := ((Box.new w s p k c 31)).on hb2
      have hx1 := hX2.1
      have hx2 := hX2.2
      have hx3 := hX2.lt
      have HB2 := hid hB2
      clear hb2 hB2 hX2
      go_wp2
      go_loopw [12] (fun i wr => ∃ i' : Nat, i' ≤ k ∧ i = .int .i64 i' ∧ Hid (∀ j, j < i' → lo ≤ eI xs j ∧ eI xs j ≤ up) ∧ Hid (Below w.heap.size w wr)) (fun i _ => k - (intOf i).toNat)
      case atStart => exact ⟨0, Nat.zero_le _, rfl, hid (fun i hi => by omega), HB2⟩
      case round =>
        obtain ⟨i, hi, rfl, hD, hB⟩ := hrel
        by_cases hlt : i < k
        · obtain ⟨sb, so, rfl, hrd⟩ : ∃ sb so, ps = some ⟨sb, so, none⟩ ∧ ReadsI w sb so xs := by
            rcases Hrx.out with h | h
            · have := Hx.out; rw [h] at this; simp at this; omega
            · exact h
          have HRD := hid (hrd.on hB.out)
          have hsb := HRD.out.lt (by have := Hx.out; omega)
          have hc1 := HRD.out i (by have := Hx.out; omega)
          obtain ⟨x, hx⟩ : ∃ x, eI xs i = x := ⟨_, rfl⟩
          rw [hx] at hc1
          have HX := hid hx
          clear hx hrd
          by_cases g1 : lo ≤ x ∧ x ≤ up
          · have G1 := hid g1
            clear g1
            go_wp2_with (go_at_call 33; refine (sIn_yes _ _ _ _ G1.out).mono ?_; rintro e w' ⟨rfl, rfl⟩)
            go_roundw
            case rel =>
              refine ⟨i + 1, by omega, by go_num, hid (fun j hj => ?_), hid hB.out⟩
              rcases Nat.lt_or_ge j i with h | h
              · exact hD.out j h
              · obtain rfl : j = i := by omega
                rw [HX.out]; exact G1.out
            case measure => simp [intOf]; omega
          · have G1 := hid (show x < lo ∨ up < x by omega)
            clear g1
            go_wp2_with (go_at_call 33; refine (sIn_no _ _ _ _ G1.out).mono ?_; rintro e w' ⟨rfl, rfl⟩)
            go_ret
            refine ⟨?_, hB.out⟩
            rw [HR.out, lstCode, if_neg (fun h => by have h1 := h.2 i (by have := Hx.out; omega); rw [HX.out] at h1; have := G1.out; omega)]
            rfl
        · obtain rfl : i = k := by omega
          go_wp2
          go_ret
          refine ⟨?_, hB.out⟩
          rw [HR.out, lstCode, if_pos ⟨H1.out, fun j hj => hD.out j (by have := Hx.out; omega)⟩]
          rfl
    · have h1' : ((k : Int) != (n : Int)) = true := by simp; omega
      have hL : lstCode es lo up xs = 2 := by rw [lstCode, if_neg (fun h => h1 h.1)]
      rw [hL]
      clear hn hr hx hrx h0 h1 hL
      go_enter Tryd.func24, Tryd.ntmps24
      go_wp2_with fail
      refine (sFCode_any _ _ _ _ es m _ hm Hn.out (Hr.out.on (on_alloc _ _))).mono ?_
      rw [H0.out]
      rintro e w2 ⟨rfl, hb2⟩
      have hB2 := bfrom (w := w) (by go_grown) hb2
      have hX2 := ((Box.new w s p n c 31)).on hb2
      have hx1 := hX2.1
      have hx2 := hX2.2
      have hx3 := hX2.lt
      clear hb2 hX2
      go_wp2
      go_ret
      exact ⟨rfl, hB2⟩
  · rw [if_neg h0]
    have h0' : (modCode s es m != 0) = true := by simpa using h0
    obtain ⟨r, hR⟩ : ∃ r, modCode s es m = r := ⟨_, rfl⟩
    rw [hR] at h0' ⊢
    have HR := hid hR
    clear hn hr hx hrx h0 hR
    go_enter Tryd.func24, Tryd.ntmps24
    go_wp2_with fail
    refine (sFCode_any _ _ _ _ es m _ hm Hn.out (Hr.out.on (on_alloc _ _))).mono ?_
    rw [HR.out]
    rintro e w2 ⟨rfl, hb2⟩
    have hB2 := bfrom (w := w) (by go_grown) hb2
    go_wp2
    go_ret
    exact ⟨rfl, hB2⟩

set_option maxRecDepth 100000 in
set_option maxHeartbeats 8000000 in
theorem sNet_any (N b off n c f : Nat) (ps : Option Addr) (es : List (Int × Int)) (xs : List Int) (w : World) (hn : es.length = n) (hr : ReadsE w b off es) (hx : xs.length = n) (hrx : SeesI w ps xs) (g : IsG N es) (hv : ∀ i, i < xs.length → -1000 ≤ eI xs i ∧ eI xs i ≤ 1000) :
    Calls Tryd.prog 32 #[.agg #[.int .i64 N, .slice (some ⟨b, off, none⟩) n c], .slice ps n f] w fun e' w' => ∃ q, e' = .returned (.slice (some ⟨q, 0, none⟩) N N) ∧ w.heap.size ≤ q ∧ OwnI w' q N (netL es xs N n) ∧ Below w.heap.size w w' := by
  have Hn := hid hn
  have Hr := hid hr
  have Hx := hid hx
  have G := hid g
  have HV := hid hv
  have hn30 : n ≤ 30 := by have := isG_len g; omega
  have hn3 : 0 < n := by have := g.1.1; unfold okSize at this; omega
  have hN3 : 2 ≤ N ∧ N ≤ 20 := by have := g.1.1.1; have := g.1.1.2.1; omega
  obtain ⟨sb, so, rfl, hrd⟩ : ∃ sb so, ps = some ⟨sb, so, none⟩ ∧ ReadsI w sb so xs := by
    rcases hrx with h | h
    · rw [h] at hx; simp at hx; omega
    · exact h
  have Hrd := hid hrd
  obtain ⟨hN3, hN4⟩ := hN3
  obtain ⟨j0, hj, hy0, hy1, hy2⟩ := info_parts infoInt
  have Hj := hid hj
  clear hn hr hx hrd g hv hj hrx
  go_enter Tryd.func32, Tryd.ntmps32
  have HX2 := hid (Box.new w (N : Int) (some ⟨b, off, none⟩) n c 31)
  have HB2 := hid (on_alloc w (.cells #[.int .i64 N, .slice (some ⟨b, off, none⟩) n c] 31))
  obtain ⟨w2, hw2⟩ : ∃ w2, w2 = w.alloc (.cells #[.int .i64 N, .slice (some ⟨b, off, none⟩) n c] 31) := ⟨_, rfl⟩
  rw [← hw2] at HX2 HB2
  have hz2' := HX2.out.lt
  go_wp2_with (at_make; rw [← hw2]; clear hw2; refine wpList_make_full _ rfl _ _ 25 rfl w2.heap.size 2 j0 (.int .i64 0) 1 Tryd.underlying25 Hj.out hy0 hy1 _ _ _ _ N rfl rfl rfl rfl (by rw [hy2]; omega) (by unfold maxLen; omega) (Nat.le_refl _) ?_; intro w3 hown hgrow)
  have Ho := hid (OwnI.made hown)
  have Hb3 := hid ((Below.refl w2.heap.size w2).grown hgrow (Nat.le_refl _) (fun k e => by cases e))
  clear hown hgrow
  go_loopw [6] (fun i wr => ∃ (i' : Nat), i' ≤ n ∧ i = .int .i64 i' ∧ Hid (OwnI wr w2.heap.size N (netL es xs N i')) ∧ Hid (Below w2.heap.size w2 wr)) (fun i _ => n - (intOf i).toNat)
  case atStart => exact ⟨0, Nat.zero_le _, rfl, hid (by rw [netL_zero]; exact Ho.out), Hb3⟩
  case round =>
    obtain ⟨i, hi, rfl, hO, hB⟩ := hrel
    clear Ho Hb3
    have HXr := hid (HX2.out.on hB.out)
    have hxr := HXr.out.1
    have hyr := HXr.out.2
    have hzr := HXr.out.lt
    by_cases hlt : i < n
    · have HBw := hid (bfrom HB2.out hB.out)
      have hbb : b < w.heap.size := reads_lt Hr.out (by have := Hn.out; omega)
      have hbe : b < wr.heap.size := by have := HBw.out.size; omega
      have hc1 := (Hr.out.on HBw.out i (by have := Hn.out; omega)).1
      have hc2 := (Hr.out.on HBw.out i (by have := Hn.out; omega)).2
      have hcc := Hrd.out.on HBw.out i (by have := Hx.out; omega)
      have hcb : sb < wr.heap.size := (Hrd.out.on HBw.out).lt (by have := Hx.out; omega)
      have hsw : sb < w.heap.size := Hrd.out.lt (by have := Hx.out; omega)
      have hw2z : w.heap.size ≤ w2.heap.size := HB2.out.size
      have hok := G.out.1.2 i (by have := Hn.out; omega)
      obtain ⟨X, hX1⟩ : ∃ X : Nat, eA es i = X := ⟨_, (Int.toNat_of_nonneg hok.1).symm⟩
      obtain ⟨Y, hY1⟩ : ∃ Y : Nat, eB es i = Y := ⟨_, (Int.toNat_of_nonneg hok.2.2.1).symm⟩
      have hXN : X < N := by have := hok.2.1; omega
      have hYN : Y < N := by have := hok.2.2.2.1; omega
      have hXY : ¬ X = Y := by have := hok.2.2.2.2; omega
      have hYX : ¬ Y = X := fun e => hXY e.symm
      have hXN' : (X : Int) < (N : Int) := by omega
      have hYN' : (Y : Int) < (N : Int) := by omega
      rw [hX1] at hc1
      rw [hY1] at hc2
      have h1 := hO.out.cellI (i := X) (by rw [netL_len]; omega)
      have h2 := hO.out.cellI (i := Y) (by rw [netL_len]; omega)
      rw [netL_at hXN] at h1
      rw [netL_at hYN] at h2
      have f1 := hO.out.free X
      have f2 := hO.out.free Y
      have hgz := hO.out.lt
      obtain ⟨x, hxx⟩ : ∃ x, eI xs i = x := ⟨_, rfl⟩
      obtain ⟨a1, ha1⟩ : ∃ a1, netV es xs i X = a1 := ⟨_, rfl⟩
      obtain ⟨a2, ha2⟩ : ∃ a2, netV es xs i Y = a2 := ⟨_, rfl⟩
      have hv := HV.out i (by have := Hx.out; omega)
      have hn1 := netV_near (es := es) HV.out X i (by have := Hx.out; omega)
      have hn2 := netV_near (es := es) HV.out Y i (by have := Hx.out; omega)
      rw [hxx] at hcc hv
      rw [ha1] at h1 hn1
      rw [ha2] at h2 hn2
      have e1 : IntKind.i64.wrap (a2 + x) = a2 + x := IntWalk.i64_in _ (by omega)
      have e2 : IntKind.i64.wrap (a1 - x) = a1 - x := IntWalk.i64_in _ (by omega)
      have HS := hid (netL_back (N := N) (xs := xs) hX1 hY1 hXY hXN hYN)
      rw [ha1, ha2, hxx] at HS
      clear hX1 hY1 hok hv hn1 hn2 hxx ha1 ha2
      go_wp2
      go_region
      go_wp2
      go_region
      go_wp2
      go_roundw
      case rel =>
        refine ⟨i + 1, by omega, by go_num, hid ?_, hid (((hB.out.setCell (p := ⟨w2.heap.size, Y, none⟩) (Nat.le_refl _) _).setCell (p := ⟨w2.heap.size, X, none⟩) (Nat.le_refl _) _).drew.drew)⟩
        rw [← HS.out]
        exact OwnI.keep (w' := World.drew (World.drew _)) (OwnI.set (OwnI.set hO.out (by rw [netL_len]; omega) _) (by rw [List.length_set, netL_len]; omega) _) rfl
      case measure => simp [intOf]; omega
    · obtain rfl : i = n := by omega
      go_wp2
      go_ret
      exact ⟨_, rfl, by have := HB2.out.size; omega, hO.out, bfrom HB2.out hB.out⟩

end Go.Proofs.YthncgpbgffbpgaaDoor
