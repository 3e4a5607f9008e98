/- Matchings in the model. -/
import Derived.Test.YtpadnliebimceaaSpecC
import Derived.Test.YtpadnliebimceaaLawsF
import Derived.Test.YtpadnliebimceaaMatA
import Derived.BigQuiet
namespace Go.Proofs.Ytpadnliebimceaa
open Go.RowKit

theorem infoBm : (Try.prog.info? 4).map (fun i => (i.zero, i.size, i.bytes)) = some (some (.bool false), 1, 1) := by kernel_rfl

theorem reads_endM {w : World} {b off e k : Nat} {es : List (Int × Int)} (h : ReadsE w b off es) (he : e < es.length) (hk : k < 2) : w.cell? ⟨b, off + e * 2 + k, none⟩ = some (.int .i64 (endM es e k)) := by
  rcases (by omega : k = 0 ∨ k = 1) with rfl | rfl
  · exact (h e he).1
  · exact (h e he).2
theorem endM_range {s : Int} {es : List (Int × Int)} (h : IsG s es) {e k : Nat} (he : e < es.length) : 0 ≤ endM es e k ∧ endM es e k < s := by
  have h1 := h.1.2 e he
  unfold endM
  split
  · exact ⟨h1.1, h1.2.1⟩
  · exact ⟨h1.2.2.1, h1.2.2.2.1⟩

set_option maxRecDepth 100000 in
set_option maxHeartbeats 8000000 in
theorem sMat_loop (N : Nat) (b off n c k f : Nat) (ps : Option Addr) (es : List (Int × Int)) (xs : List Int) (w : World) (hn : es.length = n) (hr : ReadsE w b off es) (hx : xs.length = k) (hk9 : k ≤ 1048576) (hrx : SeesI w ps xs) (g : IsG N es) :
    Calls Try.prog 43 #[.agg #[.int .i64 N, .slice (some ⟨b, off, none⟩) n c], .slice ps k f] w fun e' w' => e' = .returned (.bool (decide (isMatP N es xs))) ∧ Below w.heap.size w w' := by
  have Hn := hid hn
  have Hr := hid hr
  have Hx := hid hx
  have Hrx := hid hrx
  have G := hid g
  have hn30 : n ≤ 30 := by have := isG_len g; omega
  have hk99 : k ≤ 9223372036854775807 := by omega
  have hN3 : 2 ≤ N ∧ N ≤ 20 := by have := g.1.1.1; have := g.1.1.2.1; omega
  obtain ⟨hN3, hN4⟩ := hN3
  obtain ⟨r, hR⟩ : ∃ r : Bool, r = decide (isMatP N es xs) := ⟨_, rfl⟩
  rw [← hR]
  have HR := hid hR
  obtain ⟨i0, hi, hz0, hz1, hz2⟩ := info_parts infoBm
  have Hi := hid hi
  clear hn hr hx hrx g hi hR
  go_enter Try.func43, Try.ntmps43
  have HX2 := hid (Box.new w (N : Int) (some ⟨b, off, none⟩) n c 24)
  have HB2 := hid (on_alloc w (.cells #[.int .i64 N, .slice (some ⟨b, off, none⟩) n c] 24))
  obtain ⟨w2, hw2⟩ : ∃ w2, w2 = w.alloc (.cells #[.int .i64 N, .slice (some ⟨b, off, none⟩) n c] 24) := ⟨_, rfl⟩
  rw [← hw2] at HX2 HB2
  have hz2' := HX2.out.lt
  go_wp2_with (at_make; rw [← hw2]; clear hw2; refine wpList_make_full _ rfl _ _ 70 rfl w2.heap.size 4 i0 (.bool false) 1 Try.underlying70 Hi.out hz0 hz1 _ _ _ _ N rfl rfl rfl rfl (by rw [hz2]; omega) (by unfold maxLen; omega) (Nat.le_refl _) ?_; intro w3 hown hgrow)
  have Ho := hid (OwnB.made hown)
  have Hb3 := hid ((Below.refl w2.heap.size w2).grown hgrow (Nat.le_refl _) (fun k e => by cases e))
  clear hown hgrow
  go_loopw [6] (fun i wr => ∃ (i' : Nat), i' ≤ k ∧ i = .int .i64 i' ∧ Hid (OwnB wr w2.heap.size N (metL es xs N i')) ∧ Hid (∀ j, j < i' → okSet n xs j ∧ okMat es xs j) ∧ Hid (Below w2.heap.size w2 wr)) (fun i _ => k - (intOf i).toNat)
  case atStart => exact ⟨0, Nat.zero_le _, rfl, hid (by rw [metL_zero]; exact Ho.out), hid (fun i hi => by omega), Hb3⟩
  case round =>
    obtain ⟨i, hi, rfl, hC, hD, hB⟩ := hrel
    clear Ho Hb3
    have HXr := hid (HX2.out.on hB.out)
    have hxr := HXr.out.1
    have hyr := HXr.out.2
    have hzr := HXr.out.lt
    by_cases hlt : i < k
    · obtain ⟨sb, so, rfl, hrd⟩ : ∃ sb so, ps = some ⟨sb, so, none⟩ ∧ ReadsI w sb so xs := by
        rcases Hrx.out with h | h
        · have := Hx.out; rw [h] at this; simp at this; omega
        · exact h
      have HRD := hid ((hrd.on HB2.out).on hB.out)
      have HRD0 := hid hrd
      have hsb := HRD.out.lt (by have := Hx.out; omega)
      have hc1 := HRD.out i (by have := Hx.out; omega)
      obtain ⟨x, hx⟩ : ∃ x, eI xs i = x := ⟨_, rfl⟩
      rw [hx] at hc1
      have HX := hid hx
      clear hx hrd
      obtain ⟨wo, rfl⟩ : ∃ wo : World, wo = wr := ⟨_, rfl⟩
      by_cases g1 : 0 ≤ x ∧ x ≤ (n : Int) - 1
      · obtain ⟨X, rfl⟩ : ∃ X : Nat, x = X := ⟨_, (Int.toNat_of_nonneg g1.1).symm⟩
        have hXn : X < n := by omega
        have G1 := hid g1
        have hXn' : (X : Int) < (n : Int) := by omega
        have en : IntKind.i64.wrap ((n : Int) - 1) = (n : Int) - 1 := IntWalk.i64_in _ (by omega)
        clear g1
        have HXE := hid (show (eI xs i).toNat = X by rw [HX.out, Int.toNat_natCast])
        have bad : ∀ (h : okSet n xs i → False), r = false := fun h => by
          rw [HR.out]
          exact decide_eq_false (fun hm => h (by have := hm.2.1 i (by have := Hx.out; omega); rwa [Hn.out] at this))
        have HBad := hid bad
        have inner : ∀ (ho : okSet n xs i), True := fun _ => trivial
        clear bad inner
        -- the rest of the round, once the number stands well
        by_cases i1 : i = 0
        · subst i1
          rw [Nat.add_zero] at hc1
          have HOK := hid (show okSet n xs 0 from ⟨by rw [HX.out]; have := G1.out; omega, fun h => by omega⟩)
          go_wp2
          go_quiet ((go_at_call 49; exact quiet_same (sIn_yes _ _ _ _ G1.out)))
          go_wp2
          go_loopw [7] (fun kk wr => ∃ (k' : Nat), k' ≤ 2 ∧ kk = .int .i64 k' ∧ Hid (OwnB wr w2.heap.size N (halfL es xs N (0) k')) ∧ Hid (∀ qq, qq < k' → metV es xs (0) (endM es X qq) = false) ∧ Hid (Below w2.heap.size w2 wr)) (fun kk _ => 2 - (intOf kk).toNat)
          case atStart => exact ⟨0, by omega, rfl, hid (OwnB.keep (w' := World.drewN wo _) hC.out rfl), hid (fun j hj => by omega), hid (bdn.mpr hB.out)⟩
          case round =>
            obtain ⟨kk, hkk, rfl, hO, hM, hBk⟩ := hrel
            have HBw := hid (bfrom HB2.out hBk.out)
            have HXk := hid (HX2.out.on hBk.out)
            have hxk := HXk.out.1
            have hyk := HXk.out.2
            have hzk := HXk.out.lt
            have hc1k := HRD0.out.on HBw.out (0) (by have := Hx.out; omega)
            rw [HX.out, Nat.add_zero] at hc1k
            clear hxr hyr hzr hc1 
            by_cases hltk : kk < 2
            · have HE := hid (endM_range (k := kk) G.out (e := X) (by have := Hn.out; omega))
              obtain ⟨V, hV⟩ : ∃ V : Nat, endM es X kk = V := ⟨_, (Int.toNat_of_nonneg HE.out.1).symm⟩
              have hVN : V < N := by have := HE.out.2; omega
              have hVN' : (V : Int) < (N : Int) := by omega
              have hce := reads_endM (Hr.out.on HBw.out) (by have := Hn.out; omega : X < es.length) hltk
              rw [hV] at hce
              have hbb : b < wr.heap.size := by have h1 : b < w.heap.size := reads_lt Hr.out (by have := Hn.out; omega); have := HBw.out.size; omega
              have HV := hid hV
              have hok := G.out.1.2 X (by have := Hn.out; omega)
              have HA := hid (show 0 ≤ eA es (eI xs (0)).toNat ∧ eA es (eI xs (0)).toNat < N by rw [HXE.out]; exact ⟨hok.1, hok.2.1⟩)
              have HAB := hid (show eA es (eI xs (0)).toNat ≠ eB es (eI xs (0)).toNat by rw [HXE.out]; exact hok.2.2.2.2)
              have hcm := hO.out.cell (i := V) (by rw [halfL_len]; exact hVN)
              have hfm := hO.out.free V
              have hgz := hO.out.lt
              rw [halfL_at hltk (by rw [HXE.out]; exact HV.out) hVN HA.out HAB.out] at hcm
              obtain ⟨m, hm⟩ : ∃ m, metV es xs (0) V = m := ⟨_, rfl⟩
              rw [hm] at hcm
              have HMV := hid hm
              have hkn : (kk : Int) < 2 := by omega
              clear hV hok hm
              cases m
              · go_wp2
                go_quiet (fail)
                go_wp2
                go_roundw
                case rel =>
                  refine ⟨kk + 1, by omega, by go_num, hid ?_, hid (fun jj hj => ?_), hid ((bdn.mpr hBk.out).setCell (p := ⟨w2.heap.size, V, none⟩) (Nat.le_refl _) _)⟩
                  · rw [← halfL_step hltk (by rw [HXE.out]; exact HV.out) hVN HA.out]
                    exact OwnB.set (OwnB.keep (w' := World.drewN wr _) hO.out rfl) (by rw [halfL_len]; exact hVN) _
                  · rcases Nat.lt_or_ge jj kk with h | h
                    · exact hM.out jj h
                    · obtain rfl : jj = kk := by omega
                      rw [HV.out]; exact HMV.out
                case measure => simp [intOf]; omega
              · go_wp2
                go_quiet (fail)
                go_wp2
                go_ret
                refine ⟨?_, by simp only [bdn]; exact bfrom HB2.out hBk.out⟩
                rw [HR.out, decide_eq_false (fun h => okMat_not hltk (by rw [HXE.out, HV.out]; exact HMV.out) (h.2.2 (0) (by have := Hx.out; omega)))]
                rfl
            · obtain rfl : kk = 2 := by omega
              go_wp2
              go_roundw
              case rel => exact ⟨0 + 1, by omega, by go_num, hid hO.out, hid (fun j' hj => by
                  rcases Nat.lt_or_ge j' (0) with h | h
                  · exact hD.out j' h
                  · obtain rfl : j' = 0 := by omega
                    exact ⟨HOK.out, okMat_ends (fun q hq => by rw [HXE.out]; exact hM.out q hq)⟩), hBk⟩
              case measure => simp [intOf]; omega
        · obtain ⟨j, rfl⟩ : ∃ j, i = j + 1 := ⟨i - 1, by omega⟩
          have hc3 := HRD.out j (by have := Hx.out; omega)
          obtain ⟨y, hy⟩ : ∃ y, eI xs j = y := ⟨_, rfl⟩
          rw [hy] at hc3
          have HY := hid hy
          have hpos : decide ((0 : Int) < (j : Int) + 1) = true := by simp
          have e1 : (0 : Int) ≤ (j : Int) + 1 := by omega
          have e2 : (j : Int) + 1 < (k : Int) := by omega
          have e3 : ((j : Int) + 1).toNat = j + 1 := by omega
          have e4 : j < k := by omega
          have e5 : IntKind.i64.wrap (j : Int) = (j : Int) := IntWalk.i64_in _ (by omega)
          clear i1 hy
          by_cases g2 : (X : Int) ≤ y
          · have g2' : decide ((X : Int) ≤ y) = true := by simpa using g2
            have G2 := hid g2
            clear g2
            go_wp2
            go_quiet ((go_at_call 49; exact quiet_same (sIn_yes _ _ _ _ G1.out)))
            go_wp2
            go_ret
            refine ⟨?_, by simp only [bdn]; exact bfrom HB2.out hB.out⟩
            rw [HBad.out (fun h => by have h1 := h.2 (by omega); rw [HX.out, Nat.add_sub_cancel, HY.out] at h1; have := G2.out; omega)]
            rfl
          · have g2' : decide ((X : Int) ≤ y) = false := by simpa using g2
            have G2 := hid g2
            clear g2
            have HOK := hid (show okSet n xs (j + 1) from ⟨by rw [HX.out]; have := G1.out; omega, fun _ => by rw [HX.out, Nat.add_sub_cancel, HY.out]; have := G2.out; omega⟩)
            go_wp2
            go_quiet ((go_at_call 49; exact quiet_same (sIn_yes _ _ _ _ G1.out)))
            go_wp2
            go_loopw [7] (fun kk wr => ∃ (k' : Nat), k' ≤ 2 ∧ kk = .int .i64 k' ∧ Hid (OwnB wr w2.heap.size N (halfL es xs N (j + 1) k')) ∧ Hid (∀ qq, qq < k' → metV es xs (j + 1) (endM es X qq) = false) ∧ Hid (Below w2.heap.size w2 wr)) (fun kk _ => 2 - (intOf kk).toNat)
            case atStart => exact ⟨0, by omega, rfl, hid (OwnB.keep (w' := World.drewN wo _) hC.out rfl), hid (fun j hj => by omega), hid (bdn.mpr hB.out)⟩
            case round =>
              obtain ⟨kk, hkk, rfl, hO, hM, hBk⟩ := hrel
              have HBw := hid (bfrom HB2.out hBk.out)
              have HXk := hid (HX2.out.on hBk.out)
              have hxk := HXk.out.1
              have hyk := HXk.out.2
              have hzk := HXk.out.lt
              have hc1k := HRD0.out.on HBw.out (j + 1) (by have := Hx.out; omega)
              rw [HX.out] at hc1k
              clear hxr hyr hzr hc1 hc3
              by_cases hltk : kk < 2
              · have HE := hid (endM_range (k := kk) G.out (e := X) (by have := Hn.out; omega))
                obtain ⟨V, hV⟩ : ∃ V : Nat, endM es X kk = V := ⟨_, (Int.toNat_of_nonneg HE.out.1).symm⟩
                have hVN : V < N := by have := HE.out.2; omega
                have hVN' : (V : Int) < (N : Int) := by omega
                have hce := reads_endM (Hr.out.on HBw.out) (by have := Hn.out; omega : X < es.length) hltk
                rw [hV] at hce
                have hbb : b < wr.heap.size := by have h1 : b < w.heap.size := reads_lt Hr.out (by have := Hn.out; omega); have := HBw.out.size; omega
                have HV := hid hV
                have hok := G.out.1.2 X (by have := Hn.out; omega)
                have HA := hid (show 0 ≤ eA es (eI xs (j + 1)).toNat ∧ eA es (eI xs (j + 1)).toNat < N by rw [HXE.out]; exact ⟨hok.1, hok.2.1⟩)
                have HAB := hid (show eA es (eI xs (j + 1)).toNat ≠ eB es (eI xs (j + 1)).toNat by rw [HXE.out]; exact hok.2.2.2.2)
                have hcm := hO.out.cell (i := V) (by rw [halfL_len]; exact hVN)
                have hfm := hO.out.free V
                have hgz := hO.out.lt
                rw [halfL_at hltk (by rw [HXE.out]; exact HV.out) hVN HA.out HAB.out] at hcm
                obtain ⟨m, hm⟩ : ∃ m, metV es xs (j + 1) V = m := ⟨_, rfl⟩
                rw [hm] at hcm
                have HMV := hid hm
                have hkn : (kk : Int) < 2 := by omega
                clear hV hok hm
                cases m
                · go_wp2
                  go_quiet (fail)
                  go_wp2
                  go_roundw
                  case rel =>
                    refine ⟨kk + 1, by omega, by go_num, hid ?_, hid (fun jj hj => ?_), hid ((bdn.mpr hBk.out).setCell (p := ⟨w2.heap.size, V, none⟩) (Nat.le_refl _) _)⟩
                    · rw [← halfL_step hltk (by rw [HXE.out]; exact HV.out) hVN HA.out]
                      exact OwnB.set (OwnB.keep (w' := World.drewN wr _) hO.out rfl) (by rw [halfL_len]; exact hVN) _
                    · rcases Nat.lt_or_ge jj kk with h | h
                      · exact hM.out jj h
                      · obtain rfl : jj = kk := by omega
                        rw [HV.out]; exact HMV.out
                  case measure => simp [intOf]; omega
                · go_wp2
                  go_quiet (fail)
                  go_wp2
                  go_ret
                  refine ⟨?_, by simp only [bdn]; exact bfrom HB2.out hBk.out⟩
                  rw [HR.out, decide_eq_false (fun h => okMat_not hltk (by rw [HXE.out, HV.out]; exact HMV.out) (h.2.2 (j + 1) (by have := Hx.out; omega)))]
                  rfl
              · obtain rfl : kk = 2 := by omega
                go_wp2
                go_roundw
                case rel => exact ⟨j + 1 + 1, by omega, by go_num, hid hO.out, hid (fun j' hj => by
                    rcases Nat.lt_or_ge j' (j + 1) with h | h
                    · exact hD.out j' h
                    · have ej : j' = j + 1 := by omega
                      rw [ej]
                      exact ⟨HOK.out, okMat_ends (fun q hq => by rw [HXE.out]; exact hM.out q hq)⟩), hBk⟩
                case measure => simp [intOf]; omega
      · have g1' : x < 0 ∨ (n : Int) - 1 < x := by omega
        have G1 := hid g1'
        have en : IntKind.i64.wrap ((n : Int) - 1) = (n : Int) - 1 := IntWalk.i64_in _ (by omega)
        clear g1 g1'
        go_wp2
        go_quiet ((go_at_call 49; exact quiet_same (sIn_no _ _ _ _ G1.out)))
        go_wp2
        go_ret
        refine ⟨?_, by simp only [bdn]; exact bfrom HB2.out hB.out⟩
        rw [HR.out, decide_eq_false (fun h => by have h1 := (h.2.1 i (by have := Hx.out; omega)).1; rw [HX.out, Hn.out] at h1; have := G1.out; omega)]
        rfl
    · obtain rfl : i = k := by omega
      obtain ⟨q, hq⟩ : ∃ q : Bool, decide ((2 : Int) * i = N) = q := ⟨_, rfl⟩
      have hq' : ((2 * (i : Int)) == (N : Int)) = q := by rw [← hq]; rfl
      have ew : IntKind.i64.wrap (2 * (i : Int)) = 2 * (i : Int) := IntWalk.i64_in _ (by omega)
      have HQ := hid hq
      clear hq
      go_wp2
      go_ret
      refine ⟨?_, bfrom HB2.out hB.out⟩
      rw [HR.out]
      have key : decide (isMatP N es xs) = q := by
        rw [← HQ.out]
        refine decide_eq_decide.2 ⟨fun h => by have := h.1; rw [Hx.out] at this; exact this, fun h => ⟨by rw [Hx.out]; exact h, fun j hj => by rw [Hn.out]; exact (hD.out j (by have := Hx.out; omega)).1, fun j hj => (hD.out j (by have := Hx.out; omega)).2⟩⟩
      rw [key]
      rfl

end Go.Proofs.Ytpadnliebimceaa
