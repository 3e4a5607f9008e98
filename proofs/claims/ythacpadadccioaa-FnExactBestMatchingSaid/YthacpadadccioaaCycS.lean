/- The cycles that a matching leaves, in the model: l04Cycles. -/
import Derived.Test.YthacpadadccioaaRowsM
import Derived.Test.YthacpadadccioaaHasS
import Derived.Test.YthacpadadccioaaSpecAt
import Derived.Test.YthacpadadccioaaSpecD
import Derived.Deep.AppendLies
import Derived.Deep.DeepMust
import Derived.BigRegion
import Derived.BigQuiet
namespace Go.Proofs.Ythacpadadccioaa
open Go.RowKit

def lenC : Value → Nat | .slice _ n _ => n | _ => 0
theorem infoBy : (Try.prog.info? 4).map (fun i => (i.zero, i.size, i.bytes)) = some (some (.bool false), 1, 1) := by kernel_rfl

set_option maxRecDepth 100000 in
set_option maxHeartbeats 16000000 in
theorem sCyclesL_any (N : Nat) (b off n c : Nat) (ps : Option Addr) (m f0 : Nat) (es : List (Int × Int)) (xs : List Int) (w : World) (hn : es.length = n) (hr : ReadsE w b off es) (g : IsG N es) (hx : xs.length = m) (hm9 : m ≤ 1048576) (hrx : SeesI w ps xs) (hmt : isMatP N es xs) :
    Calls Try.prog 119 #[.agg #[.int .i64 N, .slice (some ⟨b, off, none⟩) n c], .slice ps m f0] w fun e' w' => ∃ q cap vals, e' = .returned (.slice q (cyU es (freeB es xs) (nxF es xs) n).length cap) ∧ RowsM w' w.heap.size (cyU es (freeB es xs) (nxF es xs) n) cap q vals ∧ Below w.heap.size w w' := by
  have hn30 : n ≤ 30 := by have := isG_len g; omega
  have Hn := hid hn
  have Hr := hid hr
  have Hx := hid hx
  have Hrx := hid hrx
  have G := hid g
  have T := hid (twoF g hmt)
  have hbl : b < w.heap.size := reads_lt hr (by have := g.1.1.2.2.2; have := g.1.1.1; omega)
  obtain ⟨ok, hok⟩ : ∃ ok, ok = freeB es xs := ⟨_, rfl⟩
  obtain ⟨nx, hnx⟩ : ∃ nx, nx = nxF es xs := ⟨_, rfl⟩
  have HFr := hid (show ∀ f, ok f = (decide (f < es.length) && !decide ((f : Int) ∈ xs)) from fun f => by rw [hok]; rfl)
  rw [← hok, ← hnx] at T ⊢
  obtain ⟨i0, hi, hz0, hz1, hz2⟩ := info_parts infoBy
  obtain ⟨j0, hj, hy0, hy1, hy2⟩ := info_parts infoInt
  obtain ⟨s0, hs, hs0, hs1, hs2⟩ := info_parts infoSlR
  have Hi := hid hi
  have Hj := hid hj
  have Hs := hid hs
  clear hn hr hx hrx g hmt hok hnx hi hj hs
  go_enter Try.func119, Try.ntmps119
  have HX0 := hid (Box.new w N (some ⟨b, off, none⟩) n c 30)
  have HB0 := hid (on_alloc w (.cells #[.int .i64 N, .slice (some ⟨b, off, none⟩) n c] 30))
  obtain ⟨w2, hw2⟩ : ∃ w2, w2 = w.alloc (.cells #[.int .i64 N, .slice (some ⟨b, off, none⟩) n c] 30) := ⟨_, rfl⟩
  rw [← hw2] at HX0 HB0
  have hz2' := HX0.out.lt
  have hs2' := HB0.out.size
  go_wp2_with (at_make; rw [← hw2]; clear hw2; refine wpList_make_full _ rfl _ _ 106 rfl w2.heap.size 4 i0 (.bool false) 1 Try.underlying106 Hi.out hz0 hz1 _ _ _ _ n rfl rfl rfl rfl (by rw [hz2]; omega) (by unfold maxLen; omega) (Nat.le_refl _) ?_; intro w3 hown hgrow; have Ho := hid (OwnB.made hown); have Hb3 := hid ((Below.refl w2.heap.size w2).grown hgrow (Nat.le_refl _) (fun k e => by cases e)); have hgM := Ho.out.lt; clear hown hgrow)
  obtain ⟨w4, hw4⟩ : ∃ w4, w4 = w3.alloc (.cells #[] 44) := ⟨_, rfl⟩
  rw [← hw4]
  have HB4 := hid (show Below w2.heap.size w2 w4 by rw [hw4]; exact Hb3.out.alloc (by omega) _)
  have HM4 := hid (show OwnB w4 w2.heap.size n (mcL es ok nx 0) by rw [hw4, mcL_zero, Hn.out]; exact Ho.out.alloc _)
  have HR4 := hid (show RowsM w4 (w2.heap.size + 1) (cyU es ok nx 0) 0 (some ⟨w3.heap.size, 0, none⟩) [] by rw [hw4]; exact RowsM.nil (World.ownsRow_made (base := w2.heap.size + 1) (e := 44) (size := 1) w3 #[] 0 (by omega) (Nat.zero_le _) rfl))
  have hz4 : w2.heap.size < w4.heap.size := by rw [hw4]; simp; omega
  clear hw4
  go_loopw [6, 7] (fun u v wr => ∃ (k cap : Nat) (q : Option Addr) (vals : List Value), k ≤ n ∧ u = .slice q (cyU es ok nx k).length cap ∧ v = .int .i64 k ∧ Hid (OwnB wr w2.heap.size n (mcL es ok nx k) ∧ RowsM wr (w2.heap.size + 1) (cyU es ok nx k) cap q vals) ∧ Hid (Below w2.heap.size w2 wr)) (fun _ v _ => n - (intOf v).toNat)
  case atStart => exact ⟨0, 0, _, [], Nat.zero_le _, rfl, rfl, hid ⟨HM4.out, HR4.out⟩, HB4⟩
  case round =>
    obtain ⟨k, cap, q, vals, hk, rfl, rfl, hC, hB⟩ := hrel
    clear Ho Hb3 HM4 HR4 HB4
    have HXr := hid (HX0.out.on hB.out)
    have hxr := HXr.out.1
    have hyr := HXr.out.2
    have hzr := HXr.out.lt
    have hcl := cyU_len es ok nx k
    obtain ⟨K, hK⟩ : ∃ K, (cyU es ok nx k).length = K := ⟨_, rfl⟩
    rw [hK] at hcl ⊢
    have HK := hid hK
    clear hK
    by_cases hlt : k < n
    · have hkl : k < es.length := by have := Hn.out; omega
      have hlt' : (k : Int) < (n : Int) := by omega
      have hcm := hC.out.1.cell (i := k) (by rw [mcL_len]; exact hkl)
      rw [mcL_at hkl] at hcm
      have hgz := hC.out.1.lt
      have HBw := hid (bfrom HB0.out hB.out)
      have hszw := HBw.out.size
      obtain ⟨a, ha⟩ : ∃ a, metC es ok nx k k = a := ⟨_, rfl⟩
      rw [ha] at hcm
      have HA := hid ha
      clear ha
      have skip : leadC es ok nx k = false → ∃ (k' cap' : Nat) (q' : Option Addr) (vals' : List Value), k' ≤ n ∧ (Value.slice q K cap) = .slice q' (cyU es ok nx k').length cap' ∧ (Value.int .i64 ((k : Int) + 1)) = .int .i64 k' ∧ Hid (OwnB wr w2.heap.size n (mcL es ok nx k') ∧ RowsM wr (w2.heap.size + 1) (cyU es ok nx k') cap' q' vals') ∧ Hid (Below w2.heap.size w2 wr) := fun h => ⟨k + 1, cap, q, vals, by omega, by rw [cyU_no h, HK.out], by go_num, hid ⟨by rw [mcL_old T.out h]; exact hC.out.1, by rw [cyU_no h]; exact hC.out.2⟩, hB⟩
      have HSkip := hid skip
      clear skip
      cases a
      · obtain ⟨z, hz⟩ : ∃ z, decide ((k : Int) ∈ xs) = z := ⟨_, rfl⟩
        have HZ := hid hz
        clear hz
        cases z
        · have HLd := hid (show leadC es ok nx k = true by unfold leadC; rw [HA.out, HFr.out k, HZ.out, decide_eq_true hkl]; rfl)
          have HOK := hid (show ok k = true by rw [HFr.out k, HZ.out, decide_eq_true hkl]; rfl)
          have hbr : b < wr.heap.size := by omega
          have hc2 := (Hr.out.on HBw.out k hkl).2
          have hE := (endsIn_of G.out k hkl).2
          obtain ⟨Y, hY⟩ : ∃ Y : Nat, eB es k = Y := ⟨_, (Int.toNat_of_nonneg hE.1).symm⟩
          rw [hY] at hc2
          have HY := hid hY
          clear hE hY
          go_wp2_with (go_at_call 116; refine (sHas_any ps m f0 k xs _ Hx.out hm9 (Hrx.out.on HBw.out)).mono ?_; rw [HZ.out]; rintro e' w' ⟨rfl, rfl⟩)
          obtain ⟨Kc, hKc⟩ : ∃ Kc, cyK es nx k = Kc := ⟨_, rfl⟩
          have hsp := cyK_spec T.out HOK.out
          rw [hKc] at hsp
          obtain ⟨hK0, hKn, hKe, hKm⟩ := hsp
          have HKc := hid hKc
          have HKe := hid (And.intro hKe hKm)
          have hKn' : Kc ≤ 30 := by have := Hn.out; omega
          clear hKc hKe hKm
          go_region
          obtain ⟨wo, rfl⟩ : ∃ wo : World, wo = wr := ⟨_, rfl⟩
          obtain ⟨w6, hw6⟩ : ∃ w6, w6 = (wo.alloc (.cells #[] 2)).drew := ⟨_, rfl⟩
          rw [← hw6]
          have HO6 := hid (show OwnI w6 wo.heap.size 0 (cyP es nx k 0) by rw [hw6]; exact own_nil wo _ rfl)
          have HM6 := hid (show OwnB w6 w2.heap.size n (mjL es ok nx k 0) by rw [hw6, mjL_zero]; exact (hC.out.1.alloc _).keep rfl)
          have HK6 := hid (show Kept (fun i => i < wo.heap.size ∧ i ≠ w2.heap.size) wo w6 by rw [hw6]; exact (Kept.refl _ wo).call (bdn.mpr (on_alloc _ _) : Below wo.heap.size wo ((wo.alloc (.cells #[] 2)).drewN 1)))
          clear hw6 hcm hxr hyr hzr hc2
          go_wp2
          go_loopw [8, 9, 10] (fun u v z wx => ∃ (j cc gc F V : Nat), j ≤ Kc ∧ wo.heap.size ≤ gc ∧ u = .slice (some ⟨gc, 0, none⟩) j cc ∧ v = .int .i64 F ∧ z = .int .i64 V ∧ Hid ((wyS es nx k j).1 = F ∧ (wyS es nx k j).2 = V) ∧ Hid (OwnI wx gc cc (cyP es nx k j) ∧ OwnB wx w2.heap.size n (mjL es ok nx k j)) ∧ Hid (Kept (fun i => i < wo.heap.size ∧ i ≠ w2.heap.size) wo wx)) (fun u _ _ _ => Kc - lenC u)
          case atStart => exact ⟨0, 0, wo.heap.size, k, Y, by omega, Nat.le_refl _, rfl, rfl, rfl, hid ⟨rfl, HY.out⟩, hid ⟨HO6.out, HM6.out⟩, HK6⟩
          case round =>
            obtain ⟨j, cc, gc, F, V, hj, hgc, rfl, rfl, rfl, hS, hOM, hKp⟩ := hrel
            clear HO6 HM6 HK6
            have hszx := hKp.out.size
            have HV0 := hid (wyS_ok T.out HOK.out j)
            have hFl : F < es.length := by have := T.out.lt _ HV0.out.ok; rw [hS.out.1] at this; exact this
            have hFn : F < n := by have := Hn.out; omega
            have hFn' : (F : Int) < (n : Int) := by omega
            have hcF := hOM.out.2.cell (i := F) (by rw [mjL_len]; exact hFl)
            have hnow := mjL_now T.out HLd.out (j := j) (by rw [HKc.out]; exact hj)
            rw [hS.out.1, HKc.out] at hnow
            rw [hnow] at hcF
            have hfF := hOM.out.2.free F
            have hgMx := hOM.out.2.lt
            have hgcx := hOM.out.1.lt
            by_cases hlast : j = Kc
            · rw [decide_eq_true hlast] at hcF
              have HLast := hid hlast
              clear hlast hnow
              have HB9 := hid (show Below w2.heap.size w2 wr from hB.out.trans (hKp.out.below (fun i hi => ⟨by omega, by omega⟩) (by omega)))
              have HRw := hid (hC.out.2.kept (w' := wr) (fun i h1 h2 => hKp.out.same i ⟨h2, by omega⟩ h2))
              have HOc := hid (show OwnI wr gc cc (cyL es nx k) by unfold cyL; rw [HKc.out, ← HLast.out]; exact hOM.out.1)
              have HMc := hid (show OwnB wr w2.heap.size n (mcL es ok nx (k + 1)) by rw [← mjL_end HLd.out, HKc.out, ← HLast.out]; exact hOM.out.2)
              have HLc := hid (show (cyL es nx k).length = j by unfold cyL; rw [cyP_len, HKc.out, HLast.out])
              obtain ⟨wi, rfl⟩ : ∃ wi : World, wi = wr := ⟨_, rfl⟩
              have HPa := hid (HRw.out.kept (w' := wi.alloc (.cells #[.slice (some ⟨gc, 0, none⟩) j cc] 44)) (fun i _ h2 => heap_alloc_old _ _ _ h2))
              have hrow8 : ∀ j', (Value.slice q K cap).ownBlock = some j' → w2.heap.size + 1 ≤ j' ∧ j' < wi.heap.size := by have h := HRw.out.1.lt; rw [HK.out] at h; exact h
              have hK31 : K + 1 ≤ 31 := by omega
              have hvals : (cyU es ok nx k).length = K := HK.out
              have HVals := hid hvals
              clear hvals
              go_wp2_with (at_builtin; go_must (refine wpList_append_lies _ rfl (.tmp 87) (.tmp 89) 34 rfl (w2.heap.size + 1) 44 s0 (.slice none 0 0) 1 24 Try.underlying34 Hs.out hs0 hs1 hs2 rfl (by decide) (.slice q K cap) K vals rfl (by have h := HPa.out.1; rw [HVals.out] at h; exact h) ⟨wi.heap.size, 0, none⟩ 1 1 [.slice (some ⟨gc, 0, none⟩) j cc] rfl rfl (World.news_of_block (cs := #[.slice (some ⟨gc, 0, none⟩) j cc]) (t := 44) (fr := (0, 0)) (heap_alloc_new _ _)) (by simp [Value.oneCell']) (by decide) (by unfold maxLen; omega) (by omega) (by simp; omega) (wi.heap.size + 1) (by simp) ?_); intro g8 cap8 w8 hown8 hgrow8 hlie8 hg8; have Hown8 := hid hown8; have Hgrow8 := hid hgrow8; clear hown8 hgrow8 hlie8)
              go_roundw
              case rel =>
                refine ⟨k + 1, cap8, some ⟨g8, 0, none⟩, vals ++ [.slice (some ⟨gc, 0, none⟩) j cc], by omega, by rw [cyU_yes HLd.out, List.length_append, HVals.out]; rfl, by go_num, hid ⟨?_, ?_⟩, hid ?_⟩
                · exact (HMc.out.alloc _).keep (Hgrow8.out.block w2.heap.size (by have := HMc.out.lt; rw [World.size_alloc]; omega) (fun e => by have := (hrow8 _ e.symm).1; omega))
                · rw [cyU_yes HLd.out]
                  exact RowsM.push (m := j) HPa.out (HOc.out.alloc _) (by omega) HLc.out (by rw [HVals.out]; exact Hown8.out) (by rw [HVals.out]; exact Hgrow8.out)
                · exact (HB9.out.alloc HB9.out.size _).grown Hgrow8.out (by rw [World.size_alloc]; have := HB9.out.size; omega) (fun j' e => by have := (hrow8 j' e).1; omega)
              case measure => simp [intOf]; omega
            · rw [decide_eq_false hlast] at hcF
              have hjK : j < Kc := by omega
              clear hlast hnow
              obtain ⟨wi, rfl⟩ : ∃ wi : World, wi = wr := ⟨_, rfl⟩
              have HRow := hid ((hOM.out.1.far (a := ⟨w2.heap.size, F, none⟩) (by show gc ≠ w2.heap.size; omega) (.bool true)).alloc (.cells #[.int .i64 F] 2))
              have HSz := hid (show (wi.setCell ⟨w2.heap.size, F, none⟩ (.bool true)).heap.size = wi.heap.size by simp [World.setCell])
              have HNew := hid (show ((wi.setCell ⟨w2.heap.size, F, none⟩ (.bool true)).alloc (.cells #[.int .i64 F] 2)).heap[wi.heap.size]? = some (.cells #[.int .i64 F] 2 (0, 0)) by rw [← HSz.out]; exact heap_alloc_new _ _)
              have hj31 : j + 1 ≤ 31 := by omega
              go_wp2_with (at_builtin; go_must (refine wpList_append_lies _ rfl (.tmp 51) (.tmp 53) 44 rfl wo.heap.size 2 j0 (.int .i64 0) 1 8 Try.underlying44 Hj.out hy0 hy1 hy2 rfl (by decide) (.slice (some ⟨gc, 0, none⟩) j cc) j _ rfl (OwnI.row HRow.out (cyP_len _ _ _ _) (by omega)) ⟨wi.heap.size, 0, none⟩ 1 1 [.int .i64 F] rfl rfl (World.news_of_block (cs := #[.int .i64 F]) (t := 2) (fr := (0, 0)) HNew.out) (by simp [Value.oneCell']) (by decide) (by unfold maxLen; omega) (by omega) (by rw [World.size_alloc, HSz.out]; omega) (wi.heap.size + 1) (by rw [World.size_alloc, HSz.out]) ?_); intro g7 cap7 w7 hown7 hgrow7 hlie7 hg7; have Hown7 := hid hown7; have Hgrow7 := hid hgrow7; have Hlie7 := hid hlie7; have hKp7 : Kept (fun i => i < wo.heap.size ∧ i ≠ w2.heap.size) wo w7 := ((hKp.out.set (a := ⟨w2.heap.size, F, none⟩) (fun h => h.2 rfl) (.bool true)).call (on_alloc _ (.cells #[.int .i64 F] 2))).row hgrow7 (fun r e h => by have e1 : gc = r := Option.some.inj e; have h1 := h.1; omega); have HKp7 := hid hKp7; have hB7 : Below w2.heap.size w2 w7 := hB.out.trans (hKp7.below (fun i hi => ⟨by omega, by omega⟩) (by omega)); have HB7 := hid hB7; have hX7 := HX0.out.on hB7; have HX7 := hid hX7; have hx7 := hX7.1; have hy7 := hX7.2; have hz7 := hX7.lt; clear hown7 hgrow7 hlie7 hX7 hB7 hKp7)
              have HOM7 := hid (show OwnB w7 w2.heap.size n (mjL es ok nx k (j + 1)) by
                rw [← mjL_step (by rw [hS.out.1]; exact hFl), hS.out.1]
                exact ((OwnB.set hOM.out.2 (by rw [mjL_len]; exact hFl) true).alloc (.cells #[.int .i64 F] 2)).keep (Hgrow7.out.block w2.heap.size (by rw [World.size_alloc, HSz.out]; omega) (fun e => by have e1 : w2.heap.size = gc := Option.some.inj e; omega)))
              have hcy : intVals (cyP es nx k j) ++ [.int .i64 (F : Int)] = intVals (cyP es nx k (j + 1)) := by rw [cyP_succ, intVals_append, hS.out.1]; rfl
              have HOc7 := hid (show OwnI w7 g7 cap7 (cyP es nx k (j + 1)) from (OwnI.of_row (n := j + 1) (by rw [← hcy]; exact Hown7.out) (cyP_len _ _ _ _)).1)
              have hg7 : wo.heap.size ≤ g7 := by
                rcases Hlie7.out with h | h
                · have e1 : gc = g7 := Option.some.inj h
                  omega
                · omega
              have hw7 : wo.heap.size ≤ w7.heap.size := HKp7.out.size
              clear hcy
              go_wp2_with fail
              refine (sAt_any _ V b off n c es _ Hn.out hn30 (Hr.out.on (bfrom HB0.out HB7.out))).mono ?_
              rintro e' w8 ⟨q4, cap4, rfl, hf4, hb8⟩
              have hvr := wyS_rng T.out HV0.out
              rw [hS.out.2] at hvr
              have hon : onE es V F = true := by have := HV0.out.on; rw [hS.out.1, hS.out.2] at this; exact this
              have hokF : ok F = true := by have := HV0.out.ok; rw [hS.out.1] at this; exact this
              obtain ⟨nk1, nk2, nk3⟩ := T.out.nx_ok V F hokF hon
              have hone := fun h hh hho => T.out.one V F h hokF hh hon hho
              obtain ⟨NX, hNX⟩ : ∃ NX, nx V F = NX := ⟨_, rfl⟩
              rw [hNX] at nk1 nk2 nk3 hone
              have HS2 := hid (show wyS es nx k (j + 1) = (NX, othE es V NX) by
                show wyStep es nx (wyS es nx k j) = _
                unfold wyStep
                rw [hS.out.1, hS.out.2, hNX])
              have HNK := hid (And.intro nk1 (And.intro nk2 nk3))
              have HOne := hid hone
              obtain ⟨L, hL⟩ : ∃ L, L = onL es V := ⟨_, rfl⟩
              have HLm := hid (show ∀ e, e ∈ L → e < es.length ∧ onE es V e = true from fun e he => by rw [hL] at he; exact onL_mem.1 he)
              have HNXm := hid (show NX ∈ L by rw [hL]; exact onL_mem.2 ⟨T.out.lt _ nk1, nk2⟩)
              have hat : atF es V = L.map fun (i : Nat) => (i : Int) := by rw [hL]; exact onL_at es V
              have hL3 : L.length = 3 := by
                obtain ⟨x, y, z, h1, _⟩ := onL_three G.out (v := (V : Int)) hvr
                rw [hL, h1]; rfl
              have hmlen : (atF es V).length = 3 := by rw [hat, List.length_map, hL3]
              rw [hmlen] at hf4
              rw [hmlen]
              have HL3 := hid hL3
              have HAT := hid hat
              have HF4 := hid hf4
              have HB8 := hid hb8
              have HB82 := hid (show Below w2.heap.size w2 w8 from bfrom HB7.out hb8)
              have hVr := hid hvr
              clear hf4 hb8 hL hat hL3 hmlen hon hokF nk1 nk2 nk3 hone hNX hvr hx7 hy7 hz7
              go_wp2
              go_loopw [12, 13] (fun u v wx => ∃ (i : Nat) (nv : Int), i ≤ 3 ∧ u = .int .i64 nv ∧ v = .int .i64 i ∧ Hid (∀ q (hq : q < L.length), q < i → L[q] = NX → nv = NX) ∧ Hid (Below w8.heap.size w8 wx)) (fun _ v _ => 3 - (intOf v).toNat)
              case atStart => exact ⟨0, F, by omega, rfl, rfl, hid (fun q hq h => by omega), hid (Below.refl _ _)⟩
              case round =>
                obtain ⟨i, nv, hi, rfl, rfl, hN, hBi⟩ := hrel
                by_cases hlti : i < 3
                · have hiL : i < L.length := by have := HL3.out; omega
                  obtain ⟨P, hP⟩ : ∃ P, P = L[i] := ⟨_, rfl⟩
                  obtain ⟨hPE, hPO⟩ := HLm.out P (by rw [hP]; exact List.getElem_mem hiL)
                  obtain ⟨b4, o4, rfl, hrd4⟩ : ∃ b4 o4, q4 = some ⟨b4, o4, none⟩ ∧ ReadsI wr b4 o4 (atF es V) := by
                    rcases HF4.out.sees.on hBi.out with h | h
                    · rw [HAT.out] at h; have := congrArg List.length h; rw [List.length_map, HL3.out] at this; exact absurd this (by decide)
                    · exact h
                  have hc4 := hrd4 i (by rw [HAT.out, List.length_map]; exact hiL)
                  have hae : eI (atF es V) i = (P : Int) := by rw [HAT.out, hP, eI_lt (by simpa using hiL)]; simp
                  rw [hae] at hc4
                  have hb4z := World.block_lt_of_cell? wr _ hc4
                  have hin' : (i : Int) < 3 := by omega
                  have HPO := hid hPO
                  have hnext : ∀ nv2 : Int, (P = NX → nv2 = NX) → (P ≠ NX → nv2 = nv ∨ nv2 = NX) → (∀ q (hq : q < L.length), q < i + 1 → L[q] = NX → nv2 = NX) := fun nv2 h1 h2 q hq hqi hLq => by
                    rcases Nat.lt_or_ge q i with h | h
                    · have h3 := hN.out q hq h hLq
                      by_cases h4 : P = NX
                      · exact h1 h4
                      · rcases h2 h4 with h5 | h5
                        · rw [h5, h3]
                        · exact h5
                    · have eq : q = i := by omega
                      subst eq
                      exact h1 (by rw [hP, hLq])
                  have HNext := hid hnext
                  clear hnext hP hrd4 hae hPO
                  obtain ⟨wj, rfl⟩ : ∃ wj : World, wj = wr := ⟨_, rfl⟩
                  by_cases hPF : P = F
                  · have t1 : ((P : Int) != (F : Int)) = false := by rw [hPF]; simp
                    have HPF := hid hPF
                    clear hPF
                    go_wp2
                    go_roundw
                    case rel => exact ⟨i + 1, nv, by omega, rfl, by go_num, hid (HNext.out nv (fun h => absurd (HPF.out.symm.trans h).symm HNK.out.2.2) (fun _ => .inl rfl)), hBi⟩
                    case measure => simp [intOf]; omega
                  · have t1 : ((P : Int) != (F : Int)) = true := by
                      have h : ¬ (P : Int) = (F : Int) := by omega
                      simpa using h
                    have HPF := hid hPF
                    obtain ⟨z, hz⟩ : ∃ z, decide ((P : Int) ∈ xs) = z := ⟨_, rfl⟩
                    have HZP := hid hz
                    clear hPF hz
                    cases z
                    · have HPN := hid (show P = NX from (HOne.out P (by rw [HFr.out P, HZP.out, decide_eq_true hPE]; rfl) HPO.out).resolve_left HPF.out)
                      go_wp2_with (go_at_call 116; refine (sHas_any ps m f0 P xs _ Hx.out hm9 (Hrx.out.on (bfrom HB0.out (bfrom HB82.out hBi.out)))).mono ?_; rw [HZP.out]; rintro e' w' ⟨rfl, rfl⟩)
                      go_roundw
                      case rel => exact ⟨i + 1, P, by omega, rfl, by go_num, hid (HNext.out P (fun h => by rw [h]) (fun h => absurd HPN.out h)), hBi⟩
                      case measure => simp [intOf]; omega
                    · go_wp2_with (go_at_call 116; refine (sHas_any ps m f0 P xs _ Hx.out hm9 (Hrx.out.on (bfrom HB0.out (bfrom HB82.out hBi.out)))).mono ?_; rw [HZP.out]; rintro e' w' ⟨rfl, rfl⟩)
                      go_roundw
                      case rel => exact ⟨i + 1, nv, by omega, rfl, by go_num, hid (HNext.out nv (fun h => by
                        have h1 := HFr.out P
                        rw [HZP.out, h, HNK.out.1] at h1
                        simp at h1) (fun _ => .inl rfl)), hBi⟩
                      case measure => simp [intOf]; omega
                · have hnv : nv = NX := by
                    obtain ⟨q, hq, e⟩ := List.getElem_of_mem HNXm.out
                    exact hN.out q hq (by have := HL3.out; omega) e
                  subst hnv
                  have hHB := hid (show Below w2.heap.size w2 wr from bfrom HB82.out hBi.out)
                  have hX9 := HX0.out.on hHB.out
                  have hx9 := hX9.1
                  have hy9 := hX9.2
                  have hz9 := hX9.lt
                  have hNXl : NX < n := by have := T.out.lt _ HNK.out.1; have := Hn.out; omega
                  have hea := endsIn_of G.out NX (by have := Hn.out; omega)
                  have hN20 : N ≤ 20 := by have := G.out.1.1.2.1; omega
                  have hV20 : V ≤ 1000 := by have := hVr.out; omega
                  obtain ⟨V2, hV2⟩ : ∃ V2 : Nat, othE es V NX = V2 := ⟨_, (Int.toNat_of_nonneg (oth_in' G.out (T.out.lt _ HNK.out.1) HNK.out.2.1).1).symm⟩
                  have HV2 := hid hV2
                  have hEA : (0 ≤ eA es NX ∧ eA es NX ≤ 1000) ∧ (0 ≤ eB es NX ∧ eB es NX ≤ 1000) := by omega
                  have HEA := hid hEA
                  clear hX9 hea hV2 hEA
                  obtain ⟨wj, rfl⟩ : ∃ wj : World, wj = wr := ⟨_, rfl⟩
                  go_wp2_with fail
                  refine (sOther_any _ _ _ b off n c NX es _ (by omega) Hn.out (Hr.out.on (bfrom HB0.out hHB.out)) rfl hNXl HEA.out.1 HEA.out.2 (by omega)).mono ?_
                  rw [show eA es NX + eB es NX - (V : Int) = V2 from HV2.out]
                  rintro e' w10 ⟨rfl, hb10⟩
                  have HB710 := hid (show Below w7.heap.size w7 w10 from (HB8.out.trans (hBi.out.mono HB8.out.size)).trans (hb10.mono (by have := HB8.out.size; have := hBi.out.size; omega)))
                  clear hb10
                  go_wp2
                  go_roundw
                  case rel => exact ⟨j + 1, cap7, g7, NX, V2, by omega, hg7, rfl, rfl, rfl, hid (by rw [HS2.out]; exact ⟨rfl, HV2.out⟩), hid ⟨HOc7.out.on HB710.out, HOM7.out.on HB710.out⟩, hid (HKp7.out.call HB710.out)⟩
                  case measure => simp [lenC]; omega
        · have HLd := hid (show leadC es ok nx k = false by unfold leadC; rw [HFr.out k, HZ.out]; simp)
          go_wp2_with (go_at_call 116; refine (sHas_any ps m f0 k xs _ Hx.out hm9 (Hrx.out.on HBw.out)).mono ?_; rw [HZ.out]; rintro e' w' ⟨rfl, rfl⟩)
          go_roundw
          case rel => exact HSkip.out HLd.out
          case measure => simp [intOf]; omega
      · have HLd := hid (show leadC es ok nx k = false by unfold leadC; rw [HA.out]; simp)
        go_wp2
        go_roundw
        case rel => exact HSkip.out HLd.out
        case measure => simp [intOf]; omega
    · have hkn := hid (show k = n by omega)
      go_wp2
      go_ret
      have hCr := hC.out.2
      rw [hkn.out] at hCr
      refine ⟨q, cap, vals, by rw [← hkn.out, HK.out]; rfl, ?_, bfrom HB0.out hB.out⟩
      exact ⟨⟨hCr.1.1, by
        rcases hCr.1.2 with h | ⟨g', c', cur, hv, hb, r⟩
        · exact .inl h
        · exact .inr ⟨g', c', cur, hv, by omega, r⟩⟩, hCr.2.1, fun i hi => by
        obtain ⟨g', c', e1, e2, e3⟩ := hCr.2.2 i hi
        exact ⟨g', c', e1, by omega, e3⟩⟩

end Go.Proofs.Ythacpadadccioaa
