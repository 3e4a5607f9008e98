/- The law on AllCycles, walked out of the contracts: it returns true, whatever lies in memory. -/
import Derived.Test.YtfdlhdgmbjdhbaaAcV
import Derived.Test.YtfdlhdgmbjdhbaaLawsF
import Derived.Deep.RegionWith
import Derived.Deep.DeepCutAuto
namespace Go.Proofs.Ytfdlhdgmbjdhbaa
open Go.RowKit

set_option maxRecDepth 100000 in
set_option maxHeartbeats 8000000 in
theorem lawAllCycles_big0 (s0 : Int) (p0 : Option Addr) (n0 c0 : Nat) (w : World) (m0 : n0 ≤ 9223372036854775807) (bg : 1048576 < n0) :
    Calls Try.prog 4 #[.agg #[.int .i64 s0, .slice p0 n0 c0]] w fun e' w' => e' = .returned (.bool true) ∧ Below w.heap.size w w' := by
  have BG := hid bg
  clear bg
  go_enter Try.func4, Try.ntmps4
  go_wp2_with fail
  refine (szGraph_any _ _ _ _ _ _ m0 (by omega) (by omega)).mono ?_
  rw [if_pos (by have := BG.out; omega)]
  rintro e' w2 ⟨rfl, hb2⟩
  have hB2 := bfrom (w := w) (by go_grown) hb2
  go_wp2
  go_ret
  exact ⟨rfl, hB2⟩

set_option maxRecDepth 100000 in
set_option maxHeartbeats 8000000 in
theorem lawAllCycles_small (s0 : Int) (p0 : Option Addr) (n0 c0 : Nat) (es0 : List (Int × Int)) (w : World) (hn0 : es0.length = n0) (hm0 : n0 ≤ 1048576) (hr0 : SeesE w p0 es0) :
    Calls Try.prog 4 #[.agg #[.int .i64 s0, .slice p0 n0 c0]] w fun e' w' => e' = .returned (.bool true) ∧ Below w.heap.size w w' := by
  have hq0 : n0 ≤ 9223372036854775807 := by omega
  have hge0 : ¬ ((1048576 : Int) - n0 < 0) := by omega
  have Hn0 := hid hn0
  have Hm0 := hid hm0
  have Hr0 := hid hr0
  obtain ⟨L, cd, hR⟩ : ∃ L cd, fAllCycles s0 es0 = (L, cd) := ⟨_, _, rfl⟩
  obtain ⟨l, hl⟩ : ∃ l, L.length = l := ⟨_, rfl⟩
  have hl1 : l ≤ 1048576 := by have h := fAllCycles_len s0 es0 (by omega); rw [hR] at h; rw [← hl]; exact h
  have hl2 : l ≤ 9223372036854775807 := by omega
  obtain ⟨T, hT⟩ : ∃ T, sumLL L l = T := ⟨_, rfl⟩
  have hT1 : 1 + T ≤ 1048576 := by have h := fAllCycles_sum s0 es0; rw [hR] at h; dsimp only at h; rw [hl, hT] at h; exact h (by omega)
  have hrows : ∀ i, i < l → (lI L i).length ≤ 1048576 := fun i hi => by have h := sumLL_lt L hi; omega
  obtain ⟨mk, hmk⟩ : ∃ mk : Int, mk = 1 + (T : Int) := ⟨_, rfl⟩
  have hmk0 : decide (mk < 0) = false := by simp; omega
  have hmk1 : (mk != mk) = false := by simp
  have hne0 : (cd != cd) = false := by simp
  have hS := fun (q0 : Option Addr) (cc0 : Nat) (ww : World) (hh0 : SeesE ww q0 es0) => sAllCycles_any s0 q0 n0 cc0 es0 ww hm0 hn0 hh0
  have hI := fun (q0 : Option Addr) (cc0 : Nat) (ww : World) (hh0 : SeesE ww q0 es0) => iAllCycles_any s0 q0 n0 cc0 es0 ww hm0 hn0 hh0
  rw [hR] at hS hI
  dsimp only at hS hI
  rw [hl] at hS hI
  have HLl := hid hl
  have Hl1 := hid hl1
  have Hmk := hid hmk
  have HS := hid hS
  have HI := hid hI
  obtain ⟨kk0, hkk0⟩ : ∃ kk0 : Int, kk0 = 1 + 2 * (n0 : Int) := ⟨_, rfl⟩
  have hkb0 : 0 ≤ kk0 ∧ kk0 ≤ 4194304 := by omega
  have hkn : decide (kk0 < 0) = false := by simp; omega
  have Hkk0 := hid hkk0
  have Hkb0 := hid hkb0
  have HTT := hid hT
  have HT1 := hid hT1
  have Hrows := hid hrows
  clear hT hT1 hrows
  clear hn0 hm0 hr0 hR hS hI hl hl1 hmk hkk0 hkb0
  go_enter Try.func4, Try.ntmps4
  go_wp2_with fail
  have HA0_1 : Hid (Box (w.alloc (.cells #[.int .i64 s0, .slice p0 n0 c0] 24)) (w.heap.size) s0 p0 n0 c0) := hid (by have h := (Box.new w s0 p0 n0 c0 24); first | exact h | simpa only [World.size_alloc] using h)
  have HB1 : Hid (Below w.heap.size w (w.alloc (.cells #[.int .i64 s0, .slice p0 n0 c0] 24))) := hid (bfrom (Below.refl _ _) (on_alloc _ (.cells #[.int .i64 s0, .slice p0 n0 c0] 24)))
  refine (szGraph_any _ _ _ _ _ _ hq0 (by omega) (by omega)).mono ?_
  rw [if_neg (by omega)]
  rintro e' w2 ⟨rfl, hb2⟩
  have HA0_2 := hid (HA0_1.out.on hb2)
  have HB2 := hid (bfrom HB1.out hb2)
  have hs2 : w.heap.size + 1 ≤ w2.heap.size := by have h := hb2.size; simp only [World.size_alloc] at h; omega
  clear HA0_1 HB1 hb2
  have hxA0 := HA0_2.out.1
  have hyA0 := HA0_2.out.2
  have hzA0 := HA0_2.out.lt
  go_wp2_with fail
  refine (toGraph_any _ _ _ _ es0 _ Hn0.out Hm0.out (Hr0.out.on HB2.out)).mono ?_
  rintro e' w3 ⟨gT0, rfl, hgT0, hoT0, hb3⟩
  have hfT0 := FreshE.of_own hoT0 Hn0.out hgT0
  clear hoT0 hgT0
  have HA0_3 := hid (HA0_2.out.on hb3)
  have HB3 := hid (bfrom HB2.out hb3)
  have hs3 : w2.heap.size ≤ w3.heap.size := by have h := hb3.size; omega
  clear hxA0 hyA0 hzA0
  clear HA0_2 HB2 hb3
  have HT0_3 := hid hfT0
  have hq := fun g h => hfT0.own (g := g) h
  have QT0 := hid hq
  clear hfT0 hq
  have hxA0 := HA0_3.out.1
  have hyA0 := HA0_3.out.2
  have hzA0 := HA0_3.out.lt
  go_wp2_with fail
  refine (HS.out _ _ _ HT0_3.out.sees).mono ?_
  rintro e' w4 ⟨qW, capW, rfl, hfW, hb4⟩
  have HA0_4 := hid (HA0_3.out.on hb4)
  have HT0_4 := hid (HT0_3.out.on hb4)
  have HB4 := hid (bfrom HB3.out hb4)
  have hs4 : w3.heap.size ≤ w4.heap.size := by have h := hb4.size; omega
  clear hxA0 hyA0 hzA0
  clear HA0_3 HT0_3 HB3 hb4
  have HWs := hid hfW
  have VW_4 := hid (Below.refl w4.heap.size w4)
  clear hfW
  clear HT0_4
  have hxA0 := HA0_4.out.1
  have hyA0 := HA0_4.out.2
  have hzA0 := HA0_4.out.lt
  go_wp2_with fail
  refine (toGraph_any _ _ _ _ es0 _ Hn0.out Hm0.out (Hr0.out.on HB4.out)).mono ?_
  rintro e' w5 ⟨gX0, rfl, hgX0, hoX0, hb5⟩
  have hfX0 := FreshE.of_own hoX0 Hn0.out hgX0
  clear hoX0 hgX0
  have HA0_5 := hid (HA0_4.out.on hb5)
  have HB5 := hid (bfrom HB4.out hb5)
  have VW_5 := hid (bfrom VW_4.out hb5)
  have hs5 : w4.heap.size ≤ w5.heap.size := by have h := hb5.size; omega
  clear hxA0 hyA0 hzA0
  clear HA0_4 HB4 hb5
  have HX0_5 := hid hfX0
  have hq := fun g h => hfX0.own (g := g) h
  have QX0 := hid hq
  clear hfX0 hq
  have hxA0 := HA0_5.out.1
  have hyA0 := HA0_5.out.2
  have hzA0 := HA0_5.out.lt
  go_wp2_with fail
  refine (HI.out _ _ _ (HX0_5.out.on (on_alloc _ _)).sees).mono ?_
  rintro e' w6 ⟨qG, capG, rfl, hfG, hb6⟩
  have HA0_6 := hid ((HA0_5.out.on (on_alloc _ _)).on hb6)
  have HX0_6 := hid ((HX0_5.out.on (on_alloc _ _)).on hb6)
  have HXB0_6 := hid ((Box.new w5 s0 (some ⟨gX0, 0, none⟩) n0 n0 28).on hb6)
  have HB6 := hid (bfrom (bfrom HB5.out (on_alloc _ _)) hb6)
  have VW_6 := hid (bfrom (bfrom VW_5.out (on_alloc _ _)) hb6)
  have hs6 : w5.heap.size + 1 ≤ w6.heap.size := by have h := hb6.size; simp only [World.size_alloc] at h; omega
  clear hxA0 hyA0 hzA0
  clear HA0_5 HX0_5 HB5 hb6
  have HG_6 := hid hfG
  clear hfG
  have hxA0 := HA0_6.out.1
  have hyA0 := HA0_6.out.2
  have hzA0 := HA0_6.out.lt
  have hxXB0 := HXB0_6.out.1
  have hyXB0 := HXB0_6.out.2
  have hzXB0 := HXB0_6.out.lt
  go_wp2_with fail
  refine (eqLists_self _ _ _ _ _ L _ HLl.out Hl1.out Hrows.out HG_6.out.sees (HWs.out.on VW_6.out)).mono ?_
  rintro e' w7 ⟨rfl, hb7⟩
  have HA0_7 := hid (HA0_6.out.on hb7)
  have HX0_7 := hid (HX0_6.out.on hb7)
  have HXB0_7 := hid (HXB0_6.out.on hb7)
  have HG_7 := hid (HG_6.out.on hb7)
  have HB7 := hid (bfrom HB6.out hb7)
  have VW_7 := hid (bfrom VW_6.out hb7)
  have hs7 : w6.heap.size ≤ w7.heap.size := by have h := hb7.size; omega
  clear hxA0 hyA0 hzA0 hxXB0 hyXB0 hzXB0
  clear HA0_6 HX0_6 HXB0_6 HG_6 HB6 hb7
  have hxA0 := HA0_7.out.1
  have hyA0 := HA0_7.out.2
  have hzA0 := HA0_7.out.lt
  have hxXB0 := HXB0_7.out.1
  have hyXB0 := HXB0_7.out.2
  have hzXB0 := HXB0_7.out.lt
  go_upto_region 10 with fail
  go_cut [45] (fun u wx => u = .bool false ∧ Hid (Below w7.heap.size w7 wx))
  case first =>
    go_region_with (first
      | (go_at_call 8; refine (toGraph_any _ _ _ _ es0 _ Hn0.out Hm0.out ?_).mono ?_; (first | exact Hr0.out.on HB7.out | exact Hr0.out.on HB7.out.drew); rintro e' w8 ⟨gY0, rfl, hgY0, hoY0, hb8⟩; have HoY0 := hid hoY0; clear hoY0; have huXB0 := ((bcells hb8).1 _ _ hzXB0).trans hxXB0; have hvXB0 := ((bcells hb8).1 _ _ hzXB0).trans hyXB0)
      | (go_at_call 10; refine (eqGraph_self _ _ _ _ _ _ es0 _ Hn0.out hq0 ?_ ?_).mono ?_; (exact (HX0_7.out.drew.on hb8).sees); (exact HoY0.out.sees); rintro e' w9 ⟨rfl, hb9⟩))
    all_goals (go_wp2_with fail; go_meet; exact ⟨rfl, hid (bfrom (bfrom (Below.refl _ _).drew hb8) hb9)⟩)
  case rest =>
  obtain ⟨rfl, hcb⟩ := hcut
  obtain ⟨w10, rfl⟩ : ∃ w10, w10 = wc := ⟨_, rfl⟩
  have hb10 := hcb.out
  clear hcb
  have HA0_10 := hid (HA0_7.out.on hb10)
  have HX0_10 := hid (HX0_7.out.on hb10)
  have HXB0_10 := hid (HXB0_7.out.on hb10)
  have HG_10 := hid (HG_7.out.on hb10)
  have HB10 := hid (bfrom HB7.out hb10)
  have VW_10 := hid (bfrom VW_7.out hb10)
  have hs10 : w7.heap.size ≤ w10.heap.size := hb10.size
  clear hxA0 hyA0 hzA0 hxXB0 hyXB0 hzXB0
  clear HA0_7 HX0_7 HXB0_7 HG_7 HB7 hb10
  have hxA0 := HA0_10.out.1
  have hyA0 := HA0_10.out.2
  have hzA0 := HA0_10.out.lt
  have hxXB0 := HXB0_10.out.1
  have hyXB0 := HXB0_10.out.2
  have hzXB0 := HXB0_10.out.lt
  go_wp2_with fail
  refine (markGraph_k _ _ _ _ 1 es0 _ Hm0.out (by omega) (by omega) HX0_10.out).mono ?_
  rw [← Hkk0.out]
  rintro e' w11 ⟨rfl, hfm0, hg11⟩
  have HA0_11 := hid (HA0_10.out.kept hg11 (sep_box QX0.out (by omega)))
  have HXB0_11 := hid (HXB0_10.out.kept hg11 (sep_box QX0.out (by omega)))
  have HG_11 := hid (HG_10.out.grown hg11 (fun r hr => by have h := (QX0.out r hr).2; (try simp only [World.size_alloc]); omega))
  have HB11 := hid (HB10.out.grown hg11 HB10.out.size (fun k hk => by have h := (QX0.out k hk).1; omega))
  have VW_11 := hid (VW_10.out.grown hg11 VW_10.out.size (fun k hk => by have h := (QX0.out k hk).1; omega))
  have hs11 : w10.heap.size ≤ w11.heap.size := hg11.size
  clear hxA0 hyA0 hzA0 hxXB0 hyXB0 hzXB0
  clear HA0_10 HX0_10 HXB0_10 HG_10 HB10 hg11
  clear hfm0
  have hxA0 := HA0_11.out.1
  have hyA0 := HA0_11.out.2
  have hzA0 := HA0_11.out.lt
  have hxXB0 := HXB0_11.out.1
  have hyXB0 := HXB0_11.out.2
  have hzXB0 := HXB0_11.out.lt
  go_wp2_with fail
  refine (eqLists_self _ _ _ _ _ L _ HLl.out Hl1.out Hrows.out HG_11.out.sees (HWs.out.on VW_11.out)).mono ?_
  rintro e' w12 ⟨rfl, hb12⟩
  have HA0_12 := hid (HA0_11.out.on hb12)
  have HXB0_12 := hid (HXB0_11.out.on hb12)
  have HG_12 := hid (HG_11.out.on hb12)
  have HB12 := hid (bfrom HB11.out hb12)
  have VW_12 := hid (bfrom VW_11.out hb12)
  have hs12 : w11.heap.size ≤ w12.heap.size := by have h := hb12.size; omega
  clear hxA0 hyA0 hzA0 hxXB0 hyXB0 hzXB0
  clear HA0_11 HXB0_11 HG_11 HB11 hb12
  have hxA0 := HA0_12.out.1
  have hyA0 := HA0_12.out.2
  have hzA0 := HA0_12.out.lt
  have hxXB0 := HXB0_12.out.1
  have hyXB0 := HXB0_12.out.2
  have hzXB0 := HXB0_12.out.lt
  go_wp2_with fail
  refine (markPlc_k _ _ _ T _ 1 L _ Hl1.out HTT.out (by omega) (by have := HT1.out; omega) (by (try simp only [World.size_alloc]); omega) HG_12.out).mono ?_
  rw [← Hmk.out]
  rintro e' w13 ⟨rfl, hfm, hg13⟩
  have HA0_13 := hid (Box.below HA0_12.out hg13 (by (try simp only [World.size_alloc]); omega))
  have HXB0_13 := hid (Box.below HXB0_12.out hg13 (by (try simp only [World.size_alloc]); omega))
  have HB13 := hid (HB12.out.trans (hg13.mono (by (try simp only [World.size_alloc]); omega)))
  have VW_13 := hid (VW_12.out.trans (hg13.mono (by (try simp only [World.size_alloc]); omega)))
  have hs13 : w12.heap.size ≤ w13.heap.size := hg13.size
  clear hxA0 hyA0 hzA0 hxXB0 hyXB0 hzXB0
  clear HA0_12 HXB0_12 HG_12 HB12 hg13
  have HK_13 := hid hfm
  clear hfm
  have hxA0 := HA0_13.out.1
  have hyA0 := HA0_13.out.2
  have hzA0 := HA0_13.out.lt
  have hxXB0 := HXB0_13.out.1
  have hyXB0 := HXB0_13.out.2
  have hzXB0 := HXB0_13.out.lt
  go_wp2_with fail
  refine (heldLists_sees _ _ T _ 1 L _ HLl.out Hl1.out HTT.out (by omega) (by have := HT1.out; omega) HK_13.out.sees).mono ?_
  rw [← Hmk.out]
  rintro e' w13' ⟨rfl, rfl⟩
  clear hxA0 hyA0 hzA0 hxXB0 hyXB0 hzXB0
  have hxA0 := HA0_13.out.1
  have hyA0 := HA0_13.out.2
  have hzA0 := HA0_13.out.lt
  have hxXB0 := HXB0_13.out.1
  have hyXB0 := HXB0_13.out.2
  have hzXB0 := HXB0_13.out.lt
  go_wp2_with fail
  refine (toGraph_any _ _ _ _ es0 _ Hn0.out Hm0.out (Hr0.out.on HB13.out)).mono ?_
  rintro e' w14 ⟨gZ0, rfl, hgZ0, hoZ0, hb14⟩
  have hfZ0 := FreshE.of_own hoZ0 Hn0.out hgZ0
  clear hoZ0 hgZ0
  have HA0_14 := hid (HA0_13.out.on hb14)
  have HXB0_14 := hid (HXB0_13.out.on hb14)
  have HK_14 := hid (HK_13.out.on hb14)
  have HB14 := hid (bfrom HB13.out hb14)
  have VW_14 := hid (bfrom VW_13.out hb14)
  have hs14 : w13.heap.size ≤ w14.heap.size := by have h := hb14.size; omega
  clear hxA0 hyA0 hzA0 hxXB0 hyXB0 hzXB0
  clear HA0_13 HXB0_13 HK_13 HB13 hb14
  have HZ0_14 := hid hfZ0
  have hq := fun g h => hfZ0.own (g := g) h
  have QZ0 := hid hq
  clear hfZ0 hq
  have hxA0 := HA0_14.out.1
  have hyA0 := HA0_14.out.2
  have hzA0 := HA0_14.out.lt
  have hxXB0 := HXB0_14.out.1
  have hyXB0 := HXB0_14.out.2
  have hzXB0 := HXB0_14.out.lt
  go_wp2_with fail
  refine (HI.out _ _ _ HZ0_14.out.sees).mono ?_
  rintro e' w15 ⟨qH, capH, rfl, hfH, hb15⟩
  have HA0_15 := hid (HA0_14.out.on hb15)
  have HXB0_15 := hid (HXB0_14.out.on hb15)
  have HK_15 := hid (HK_14.out.on hb15)
  have HZ0_15 := hid (HZ0_14.out.on hb15)
  have HB15 := hid (bfrom HB14.out hb15)
  have VW_15 := hid (bfrom VW_14.out hb15)
  have hs15 : w14.heap.size ≤ w15.heap.size := by have h := hb15.size; omega
  clear hxA0 hyA0 hzA0 hxXB0 hyXB0 hzXB0
  clear HA0_14 HXB0_14 HK_14 HZ0_14 HB14 hb15
  have HH_15 := hid hfH
  clear hfH
  clear HZ0_15
  have hxA0 := HA0_15.out.1
  have hyA0 := HA0_15.out.2
  have hzA0 := HA0_15.out.lt
  have hxXB0 := HXB0_15.out.1
  have hyXB0 := HXB0_15.out.2
  have hzXB0 := HXB0_15.out.lt
  go_wp2_with fail
  refine (eqLists_self _ _ _ _ _ L _ HLl.out Hl1.out Hrows.out HH_15.out.sees (HWs.out.on VW_15.out)).mono ?_
  rintro e' w16 ⟨rfl, hb16⟩
  have HA0_16 := hid (HA0_15.out.on hb16)
  have HXB0_16 := hid (HXB0_15.out.on hb16)
  have HK_16 := hid (HK_15.out.on hb16)
  have HH_16 := hid (HH_15.out.on hb16)
  have HB16 := hid (bfrom HB15.out hb16)
  have VW_16 := hid (bfrom VW_15.out hb16)
  have hs16 : w15.heap.size ≤ w16.heap.size := by have h := hb16.size; omega
  clear hxA0 hyA0 hzA0 hxXB0 hyXB0 hzXB0
  clear HA0_15 HXB0_15 HK_15 HH_15 HB15 hb16
  have hxA0 := HA0_16.out.1
  have hyA0 := HA0_16.out.2
  have hzA0 := HA0_16.out.lt
  have hxXB0 := HXB0_16.out.1
  have hyXB0 := HXB0_16.out.2
  have hzXB0 := HXB0_16.out.lt
  go_wp2_with fail
  refine (heldLists_sees _ _ T _ 1 L _ HLl.out Hl1.out HTT.out (by omega) (by have := HT1.out; omega) HK_16.out.sees).mono ?_
  rw [← Hmk.out]
  rintro e' w16' ⟨rfl, rfl⟩
  clear hxA0 hyA0 hzA0 hxXB0 hyXB0 hzXB0
  go_wp2
  go_ret
  exact ⟨rfl, HB16.out⟩

theorem lawAllCycles_any (s0 : Int) (p0 : Option Addr) (n0 c0 : Nat) (es0 : List (Int × Int)) (w : World) (hn0 : es0.length = n0) (hl0 : n0 ≤ 9223372036854775807) (hr0 : SeesE w p0 es0) :
    Calls Try.prog 4 #[.agg #[.int .i64 s0, .slice p0 n0 c0]] w fun e' w' => e' = .returned (.bool true) ∧ Below w.heap.size w w' := by
  rcases Nat.lt_or_ge 1048576 (n0) with h0 | h0
  · exact lawAllCycles_big0 s0 p0 n0 c0 w hl0 (by omega)
  exact lawAllCycles_small s0 p0 n0 c0 es0 w hn0 (by omega) hr0

end Go.Proofs.Ytfdlhdgmbjdhbaa
