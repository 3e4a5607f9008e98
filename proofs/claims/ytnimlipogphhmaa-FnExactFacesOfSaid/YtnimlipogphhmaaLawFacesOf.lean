/- The law on FacesOf, walked out of the contracts: it returns true, whatever lies in memory. -/
import Derived.Test.YtnimlipogphhmaaFacQ
import Derived.Test.YtnimlipogphhmaaLawsF
import Derived.Deep.RegionWith
import Derived.Deep.DeepCutAuto
namespace Go.Proofs.Ytnimlipogphhmaa
open Go.RowKit

set_option maxRecDepth 100000 in
set_option maxHeartbeats 8000000 in
theorem lawFacesOf_big1 (s0 : Int) (p0 : Option Addr) (n0 c0 : Nat) (p1 : Option Addr) (n1 c1 : Nat) (w : World) (m1 : n1 ≤ 9223372036854775807) (b1 : 1048576 < n1) :
    Calls Try.prog 5 #[.agg #[.int .i64 s0, .slice p0 n0 c0], .slice p1 n1 c1] w fun e' w' => e' = .returned (.bool true) ∧ Below w.heap.size w w' := by
  go_enter Try.func5, Try.ntmps5
  go_wp2_with fail
  go_ret
  exact ⟨rfl, by go_grown⟩

set_option maxRecDepth 100000 in
set_option maxHeartbeats 8000000 in
theorem lawFacesOf_big0 (s0 : Int) (p0 : Option Addr) (n0 c0 : Nat) (p1 : Option Addr) (n1 c1 : Nat) (w : World) (m1 : n1 ≤ 9223372036854775807) (m0 : n0 ≤ 9223372036854775807) (b1 : n1 ≤ 1048576) (bg : 1048576 < n0) :
    Calls Try.prog 5 #[.agg #[.int .i64 s0, .slice p0 n0 c0], .slice p1 n1 c1] w fun e' w' => e' = .returned (.bool true) ∧ Below w.heap.size w w' := by
  have BG := hid bg
  clear bg
  go_enter Try.func5, Try.ntmps5
  go_wp2_with fail
  refine (szGraph_any _ _ _ _ _ _ m0 (by omega) (by omega)).mono ?_
  rw [if_pos (by have := BG.out; omega)]
  rintro e' w2 ⟨rfl, hb2⟩
  have hB2 := bfrom (w := w) (by go_grown) hb2
  go_wp2
  go_ret
  exact ⟨rfl, hB2⟩

set_option maxRecDepth 100000 in
set_option maxHeartbeats 8000000 in
theorem lawFacesOf_small (s0 : Int) (p0 : Option Addr) (n0 c0 : Nat) (es0 : List (Int × Int)) (p1 : Option Addr) (n1 c1 : Nat) (es1 : List Int) (w : World) (hn0 : es0.length = n0) (hm0 : n0 ≤ 1048576) (hr0 : SeesE w p0 es0) (hn1 : es1.length = n1) (hm1 : n1 ≤ 1048576) (hr1 : SeesI w p1 es1) :
    Calls Try.prog 5 #[.agg #[.int .i64 s0, .slice p0 n0 c0], .slice p1 n1 c1] w fun e' w' => e' = .returned (.bool true) ∧ Below w.heap.size w w' := by
  have hq0 : n0 ≤ 9223372036854775807 := by omega
  have hq1 : n1 ≤ 9223372036854775807 := by omega
  have hge0 : ¬ ((1048576 : Int) - n0 < 0) := by omega
  have Hn0 := hid hn0
  have Hm0 := hid hm0
  have Hr0 := hid hr0
  have Hn1 := hid hn1
  have Hm1 := hid hm1
  have Hr1 := hid hr1
  obtain ⟨L, cd, hR⟩ : ∃ L cd, fFacesOf s0 es0 es1 = (L, cd) := ⟨_, _, rfl⟩
  obtain ⟨l, hl⟩ : ∃ l, L.length = l := ⟨_, rfl⟩
  have hl1 : l ≤ 1048576 := by have h := fFacesOf_len s0 es0 es1 (by omega) (by omega); rw [hR] at h; rw [← hl]; exact h
  have hl2 : l ≤ 9223372036854775807 := by omega
  obtain ⟨T, hT⟩ : ∃ T, sumLL L l = T := ⟨_, rfl⟩
  have hT1 : 1 + T ≤ 1048576 := by have h := fFacesOf_sum s0 es0 es1; rw [hR] at h; dsimp only at h; rw [hl, hT] at h; exact h (by omega) (by omega)
  have hrows : ∀ i, i < l → (lI L i).length ≤ 1048576 := fun i hi => by have h := sumLL_lt L hi; omega
  obtain ⟨mk, hmk⟩ : ∃ mk : Int, mk = 1 + (T : Int) := ⟨_, rfl⟩
  have hmk0 : decide (mk < 0) = false := by simp; omega
  have hmk1 : (mk != mk) = false := by simp
  have hne0 : (cd != cd) = false := by simp
  have hS := fun (q0 : Option Addr) (cc0 : Nat) (q1 : Option Addr) (cc1 : Nat) (ww : World) (hh0 : SeesE ww q0 es0) (hh1 : SeesI ww q1 es1) => sFacesOf_any s0 q0 n0 cc0 es0 q1 n1 cc1 es1 ww hm0 hn0 hh0 hm1 hn1 hh1
  have hI := fun (q0 : Option Addr) (cc0 : Nat) (q1 : Option Addr) (cc1 : Nat) (ww : World) (hh0 : SeesE ww q0 es0) (hh1 : SeesI ww q1 es1) => iFacesOf_any s0 q0 n0 cc0 es0 q1 n1 cc1 es1 ww hm0 hn0 hh0 hm1 hn1 hh1
  rw [hR] at hS hI
  dsimp only at hS hI
  rw [hl] at hS hI
  have HLl := hid hl
  have Hl1 := hid hl1
  have Hmk := hid hmk
  have HS := hid hS
  have HI := hid hI
  have hbb1 : n1 ≤ 1048576 := hm1
  obtain ⟨kk0, hkk0⟩ : ∃ kk0 : Int, kk0 = 1 + 2 * (n0 : Int) := ⟨_, rfl⟩
  have hkb0 : 0 ≤ kk0 ∧ kk0 ≤ 4194304 := by omega
  obtain ⟨kk1, hkk1⟩ : ∃ kk1 : Int, kk1 = kk0 + (n1 : Int) := ⟨_, rfl⟩
  have hkb1 : 0 ≤ kk1 ∧ kk1 ≤ 8388608 := by omega
  have hkn : decide (kk1 < 0) = false := by simp; omega
  have Hkk0 := hid hkk0
  have Hkb0 := hid hkb0
  have Hkk1 := hid hkk1
  have Hkb1 := hid hkb1
  have HTT := hid hT
  have HT1 := hid hT1
  have Hrows := hid hrows
  clear hT hT1 hrows
  clear hn0 hm0 hr0 hn1 hm1 hr1 hR hS hI hl hl1 hmk hkk0 hkb0 hkk1 hkb1
  go_enter Try.func5, Try.ntmps5
  go_wp2_with fail
  have HA0_1 : Hid (Box (w.alloc (.cells #[.int .i64 s0, .slice p0 n0 c0] 24)) (w.heap.size) s0 p0 n0 c0) := hid (by have h := (Box.new w s0 p0 n0 c0 24); first | exact h | simpa only [World.size_alloc] using h)
  have HB1 : Hid (Below w.heap.size w (w.alloc (.cells #[.int .i64 s0, .slice p0 n0 c0] 24))) := hid (bfrom (Below.refl _ _) (on_alloc _ (.cells #[.int .i64 s0, .slice p0 n0 c0] 24)))
  refine (szGraph_any _ _ _ _ _ _ hq0 (by omega) (by omega)).mono ?_
  rw [if_neg (by omega)]
  rintro e' w2 ⟨rfl, hb2⟩
  have HA0_2 := hid (HA0_1.out.on hb2)
  have HB2 := hid (bfrom HB1.out hb2)
  have hs2 : w.heap.size + 1 ≤ w2.heap.size := by have h := hb2.size; simp only [World.size_alloc] at h; omega
  clear HA0_1 HB1 hb2
  have hxA0 := HA0_2.out.1
  have hyA0 := HA0_2.out.2
  have hzA0 := HA0_2.out.lt
  go_wp2_with fail
  refine (toGraph_any _ _ _ _ es0 _ Hn0.out Hm0.out (Hr0.out.on HB2.out)).mono ?_
  rintro e' w3 ⟨gT0, rfl, hgT0, hoT0, hb3⟩
  have hfT0 := FreshE.of_own hoT0 Hn0.out hgT0
  clear hoT0 hgT0
  have HA0_3 := hid (HA0_2.out.on hb3)
  have HB3 := hid (bfrom HB2.out hb3)
  have hs3 : w2.heap.size ≤ w3.heap.size := by have h := hb3.size; omega
  clear hxA0 hyA0 hzA0
  clear HA0_2 HB2 hb3
  have HT0_3 := hid hfT0
  have hq := fun g h => hfT0.own (g := g) h
  have QT0 := hid hq
  clear hfT0 hq
  have hxA0 := HA0_3.out.1
  have hyA0 := HA0_3.out.2
  have hzA0 := HA0_3.out.lt
  go_wp2_with fail
  refine (toInts_sees _ _ _ es1 _ Hn1.out Hm1.out (Hr1.out.on HB3.out)).mono ?_
  rintro e' w4 ⟨gT1, rfl, hgT1, hoT1, hb4⟩
  have hfT1 := FreshI.of_own hoT1 Hn1.out hgT1
  clear hoT1 hgT1
  have HA0_4 := hid (HA0_3.out.on hb4)
  have HT0_4 := hid (HT0_3.out.on hb4)
  have HB4 := hid (bfrom HB3.out hb4)
  have hs4 : w3.heap.size ≤ w4.heap.size := by have h := hb4.size; omega
  clear hxA0 hyA0 hzA0
  clear HA0_3 HT0_3 HB3 hb4
  have HT1_4 := hid hfT1
  have hq := fun g h => hfT1.own (g := g) h
  have QT1 := hid hq
  clear hfT1 hq
  have hxA0 := HA0_4.out.1
  have hyA0 := HA0_4.out.2
  have hzA0 := HA0_4.out.lt
  go_wp2_with fail
  refine (HS.out _ _ _ _ _ HT0_4.out.sees HT1_4.out.sees).mono ?_
  rintro e' w5 ⟨qW, capW, rfl, hfW, hb5⟩
  have HA0_5 := hid (HA0_4.out.on hb5)
  have HT0_5 := hid (HT0_4.out.on hb5)
  have HT1_5 := hid (HT1_4.out.on hb5)
  have HB5 := hid (bfrom HB4.out hb5)
  have hs5 : w4.heap.size ≤ w5.heap.size := by have h := hb5.size; omega
  clear hxA0 hyA0 hzA0
  clear HA0_4 HT0_4 HT1_4 HB4 hb5
  have HWs := hid hfW
  have VW_5 := hid (Below.refl w5.heap.size w5)
  clear hfW
  clear HT0_5
  clear HT1_5
  have hxA0 := HA0_5.out.1
  have hyA0 := HA0_5.out.2
  have hzA0 := HA0_5.out.lt
  go_wp2_with fail
  refine (toGraph_any _ _ _ _ es0 _ Hn0.out Hm0.out (Hr0.out.on HB5.out)).mono ?_
  rintro e' w6 ⟨gX0, rfl, hgX0, hoX0, hb6⟩
  have hfX0 := FreshE.of_own hoX0 Hn0.out hgX0
  clear hoX0 hgX0
  have HA0_6 := hid (HA0_5.out.on hb6)
  have HB6 := hid (bfrom HB5.out hb6)
  have VW_6 := hid (bfrom VW_5.out hb6)
  have hs6 : w5.heap.size ≤ w6.heap.size := by have h := hb6.size; omega
  clear hxA0 hyA0 hzA0
  clear HA0_5 HB5 hb6
  have HX0_6 := hid hfX0
  have hq := fun g h => hfX0.own (g := g) h
  have QX0 := hid hq
  clear hfX0 hq
  have hxA0 := HA0_6.out.1
  have hyA0 := HA0_6.out.2
  have hzA0 := HA0_6.out.lt
  go_wp2_with fail
  refine (toInts_sees _ _ _ es1 _ Hn1.out Hm1.out (Hr1.out.on (bfrom HB6.out (on_alloc _ _)))).mono ?_
  rintro e' w7 ⟨gX1, rfl, hgX1, hoX1, hb7⟩
  have hfX1 := FreshI.of_own hoX1 Hn1.out hgX1
  clear hoX1 hgX1
  have HA0_7 := hid ((HA0_6.out.on (on_alloc _ _)).on hb7)
  have HX0_7 := hid ((HX0_6.out.on (on_alloc _ _)).on hb7)
  have HXB0_7 := hid ((Box.new w6 s0 (some ⟨gX0, 0, none⟩) n0 n0 30).on hb7)
  have HB7 := hid (bfrom (bfrom HB6.out (on_alloc _ _)) hb7)
  have VW_7 := hid (bfrom (bfrom VW_6.out (on_alloc _ _)) hb7)
  have hs7 : w6.heap.size + 1 ≤ w7.heap.size := by have h := hb7.size; simp only [World.size_alloc] at h; omega
  clear hxA0 hyA0 hzA0
  clear HA0_6 HX0_6 HB6 hb7
  have HX1_7 := hid hfX1
  have hq := fun g h => hfX1.own (g := g) h
  simp only [World.size_alloc] at hq
  have QX1 := hid hq
  clear hfX1 hq
  have hxA0 := HA0_7.out.1
  have hyA0 := HA0_7.out.2
  have hzA0 := HA0_7.out.lt
  have hxXB0 := HXB0_7.out.1
  have hyXB0 := HXB0_7.out.2
  have hzXB0 := HXB0_7.out.lt
  go_wp2_with fail
  refine (HI.out _ _ _ _ _ HX0_7.out.sees HX1_7.out.sees).mono ?_
  rintro e' w8 ⟨qG, capG, rfl, hfG, hb8⟩
  have HA0_8 := hid (HA0_7.out.on hb8)
  have HX0_8 := hid (HX0_7.out.on hb8)
  have HXB0_8 := hid (HXB0_7.out.on hb8)
  have HX1_8 := hid (HX1_7.out.on hb8)
  have HB8 := hid (bfrom HB7.out hb8)
  have VW_8 := hid (bfrom VW_7.out hb8)
  have hs8 : w7.heap.size ≤ w8.heap.size := by have h := hb8.size; omega
  clear hxA0 hyA0 hzA0 hxXB0 hyXB0 hzXB0
  clear HA0_7 HX0_7 HXB0_7 HX1_7 HB7 hb8
  have HG_8 := hid hfG
  clear hfG
  have hxA0 := HA0_8.out.1
  have hyA0 := HA0_8.out.2
  have hzA0 := HA0_8.out.lt
  have hxXB0 := HXB0_8.out.1
  have hyXB0 := HXB0_8.out.2
  have hzXB0 := HXB0_8.out.lt
  go_wp2_with fail
  refine (eqLists_self _ _ _ _ _ L _ HLl.out Hl1.out Hrows.out HG_8.out.sees (HWs.out.on VW_8.out)).mono ?_
  rintro e' w9 ⟨rfl, hb9⟩
  have HA0_9 := hid (HA0_8.out.on hb9)
  have HX0_9 := hid (HX0_8.out.on hb9)
  have HXB0_9 := hid (HXB0_8.out.on hb9)
  have HX1_9 := hid (HX1_8.out.on hb9)
  have HG_9 := hid (HG_8.out.on hb9)
  have HB9 := hid (bfrom HB8.out hb9)
  have VW_9 := hid (bfrom VW_8.out hb9)
  have hs9 : w8.heap.size ≤ w9.heap.size := by have h := hb9.size; omega
  clear hxA0 hyA0 hzA0 hxXB0 hyXB0 hzXB0
  clear HA0_8 HX0_8 HXB0_8 HX1_8 HG_8 HB8 hb9
  have hxA0 := HA0_9.out.1
  have hyA0 := HA0_9.out.2
  have hzA0 := HA0_9.out.lt
  have hxXB0 := HXB0_9.out.1
  have hyXB0 := HXB0_9.out.2
  have hzXB0 := HXB0_9.out.lt
  go_upto_region 13 with fail
  go_cut [56] (fun u wx => u = .bool false ∧ Hid (Below w9.heap.size w9 wx))
  case first =>
    go_region_with (first
      | (go_at_call 9; refine (toGraph_any _ _ _ _ es0 _ Hn0.out Hm0.out ?_).mono ?_; (first | exact Hr0.out.on HB9.out | exact Hr0.out.on HB9.out.drew); rintro e' w10 ⟨gY0, rfl, hgY0, hoY0, hb10⟩; have HoY0 := hid hoY0; clear hoY0; have huXB0 := ((bcells hb10).1 _ _ hzXB0).trans hxXB0; have hvXB0 := ((bcells hb10).1 _ _ hzXB0).trans hyXB0)
      | (go_at_call 11; refine (eqGraph_self _ _ _ _ _ _ es0 _ Hn0.out hq0 ?_ ?_).mono ?_; (exact (HX0_9.out.drew.on hb10).sees); (exact HoY0.out.sees); rintro e' w11 ⟨rfl, hb11⟩))
    all_goals (go_wp2_with fail; go_meet; exact ⟨rfl, hid (bfrom (bfrom (Below.refl _ _).drew hb10) hb11)⟩)
  case rest =>
  obtain ⟨rfl, hcb⟩ := hcut
  obtain ⟨w12, rfl⟩ : ∃ w12, w12 = wc := ⟨_, rfl⟩
  have hb12 := hcb.out
  clear hcb
  have HA0_12 := hid (HA0_9.out.on hb12)
  have HX0_12 := hid (HX0_9.out.on hb12)
  have HXB0_12 := hid (HXB0_9.out.on hb12)
  have HX1_12 := hid (HX1_9.out.on hb12)
  have HG_12 := hid (HG_9.out.on hb12)
  have HB12 := hid (bfrom HB9.out hb12)
  have VW_12 := hid (bfrom VW_9.out hb12)
  have hs12 : w9.heap.size ≤ w12.heap.size := hb12.size
  clear hxA0 hyA0 hzA0 hxXB0 hyXB0 hzXB0
  clear HA0_9 HX0_9 HXB0_9 HX1_9 HG_9 HB9 hb12
  have hxA0 := HA0_12.out.1
  have hyA0 := HA0_12.out.2
  have hzA0 := HA0_12.out.lt
  have hxXB0 := HXB0_12.out.1
  have hyXB0 := HXB0_12.out.2
  have hzXB0 := HXB0_12.out.lt
  go_wp2_with fail
  refine (toInts_sees _ _ _ es1 _ Hn1.out Hm1.out (Hr1.out.on HB12.out)).mono ?_
  rintro e' w13 ⟨gY1, rfl, hgY1, hoY1, hb13⟩
  have hfY1 := FreshI.of_own hoY1 Hn1.out hgY1
  clear hoY1 hgY1
  have HA0_13 := hid (HA0_12.out.on hb13)
  have HX0_13 := hid (HX0_12.out.on hb13)
  have HXB0_13 := hid (HXB0_12.out.on hb13)
  have HX1_13 := hid (HX1_12.out.on hb13)
  have HG_13 := hid (HG_12.out.on hb13)
  have HB13 := hid (bfrom HB12.out hb13)
  have VW_13 := hid (bfrom VW_12.out hb13)
  have hs13 : w12.heap.size ≤ w13.heap.size := by have h := hb13.size; omega
  clear hxA0 hyA0 hzA0 hxXB0 hyXB0 hzXB0
  clear HA0_12 HX0_12 HXB0_12 HX1_12 HG_12 HB12 hb13
  have HY1_13 := hid hfY1
  have hq := fun g h => hfY1.own (g := g) h
  have QY1 := hid hq
  clear hfY1 hq
  have hxA0 := HA0_13.out.1
  have hyA0 := HA0_13.out.2
  have hzA0 := HA0_13.out.lt
  have hxXB0 := HXB0_13.out.1
  have hyXB0 := HXB0_13.out.2
  have hzXB0 := HXB0_13.out.lt
  go_wp2_with fail
  refine (eqInts_self _ _ _ _ _ es1 _ Hn1.out hq1 HX1_13.out.sees HY1_13.out.sees).mono ?_
  rintro e' w14 ⟨rfl, hb14⟩
  have HA0_14 := hid (HA0_13.out.on hb14)
  have HX0_14 := hid (HX0_13.out.on hb14)
  have HXB0_14 := hid (HXB0_13.out.on hb14)
  have HX1_14 := hid (HX1_13.out.on hb14)
  have HG_14 := hid (HG_13.out.on hb14)
  have HY1_14 := hid (HY1_13.out.on hb14)
  have HB14 := hid (bfrom HB13.out hb14)
  have VW_14 := hid (bfrom VW_13.out hb14)
  have hs14 : w13.heap.size ≤ w14.heap.size := by have h := hb14.size; omega
  clear hxA0 hyA0 hzA0 hxXB0 hyXB0 hzXB0
  clear HA0_13 HX0_13 HXB0_13 HX1_13 HG_13 HY1_13 HB13 hb14
  clear HY1_14
  have hxA0 := HA0_14.out.1
  have hyA0 := HA0_14.out.2
  have hzA0 := HA0_14.out.lt
  have hxXB0 := HXB0_14.out.1
  have hyXB0 := HXB0_14.out.2
  have hzXB0 := HXB0_14.out.lt
  go_wp2_with fail
  refine (markGraph_k _ _ _ _ 1 es0 _ Hm0.out (by omega) (by omega) HX0_14.out).mono ?_
  rw [← Hkk0.out]
  rintro e' w15 ⟨rfl, hfm0, hg15⟩
  have HA0_15 := hid (HA0_14.out.kept hg15 (sep_box QX0.out (by omega)))
  have HXB0_15 := hid (HXB0_14.out.kept hg15 (sep_box QX0.out (by omega)))
  have HX1_15 := hid (HX1_14.out.kept hg15 (sep_own QX0.out QX1.out (by omega)))
  have HG_15 := hid (HG_14.out.grown hg15 (fun r hr => by have h := (QX0.out r hr).2; (try simp only [World.size_alloc]); omega))
  have HB15 := hid (HB14.out.grown hg15 HB14.out.size (fun k hk => by have h := (QX0.out k hk).1; omega))
  have VW_15 := hid (VW_14.out.grown hg15 VW_14.out.size (fun k hk => by have h := (QX0.out k hk).1; omega))
  have hs15 : w14.heap.size ≤ w15.heap.size := hg15.size
  clear hxA0 hyA0 hzA0 hxXB0 hyXB0 hzXB0
  clear HA0_14 HX0_14 HXB0_14 HX1_14 HG_14 HB14 hg15
  clear hfm0
  have hxA0 := HA0_15.out.1
  have hyA0 := HA0_15.out.2
  have hzA0 := HA0_15.out.lt
  have hxXB0 := HXB0_15.out.1
  have hyXB0 := HXB0_15.out.2
  have hzXB0 := HXB0_15.out.lt
  go_wp2_with fail
  refine (markInts_k _ _ _ kk0 es1 _ Hm1.out Hkb0.out.1 (by have := Hkb0.out.2; omega) HX1_15.out).mono ?_
  rw [← Hkk1.out]
  rintro e' w16 ⟨rfl, hfm1, hg16⟩
  have HA0_16 := hid (HA0_15.out.kept hg16 (sep_box QX1.out (by omega)))
  have HXB0_16 := hid (HXB0_15.out.kept hg16 (sep_box QX1.out (by omega)))
  have HG_16 := hid (HG_15.out.grown hg16 (fun r hr => by have h := (QX1.out r hr).2; (try simp only [World.size_alloc]); omega))
  have HB16 := hid (HB15.out.grown hg16 HB15.out.size (fun k hk => by have h := (QX1.out k hk).1; omega))
  have VW_16 := hid (VW_15.out.grown hg16 VW_15.out.size (fun k hk => by have h := (QX1.out k hk).1; omega))
  have hs16 : w15.heap.size ≤ w16.heap.size := hg16.size
  clear hxA0 hyA0 hzA0 hxXB0 hyXB0 hzXB0
  clear HA0_15 HXB0_15 HX1_15 HG_15 HB15 hg16
  clear hfm1
  have hxA0 := HA0_16.out.1
  have hyA0 := HA0_16.out.2
  have hzA0 := HA0_16.out.lt
  have hxXB0 := HXB0_16.out.1
  have hyXB0 := HXB0_16.out.2
  have hzXB0 := HXB0_16.out.lt
  go_wp2_with fail
  refine (eqLists_self _ _ _ _ _ L _ HLl.out Hl1.out Hrows.out HG_16.out.sees (HWs.out.on VW_16.out)).mono ?_
  rintro e' w17 ⟨rfl, hb17⟩
  have HA0_17 := hid (HA0_16.out.on hb17)
  have HXB0_17 := hid (HXB0_16.out.on hb17)
  have HG_17 := hid (HG_16.out.on hb17)
  have HB17 := hid (bfrom HB16.out hb17)
  have VW_17 := hid (bfrom VW_16.out hb17)
  have hs17 : w16.heap.size ≤ w17.heap.size := by have h := hb17.size; omega
  clear hxA0 hyA0 hzA0 hxXB0 hyXB0 hzXB0
  clear HA0_16 HXB0_16 HG_16 HB16 hb17
  have hxA0 := HA0_17.out.1
  have hyA0 := HA0_17.out.2
  have hzA0 := HA0_17.out.lt
  have hxXB0 := HXB0_17.out.1
  have hyXB0 := HXB0_17.out.2
  have hzXB0 := HXB0_17.out.lt
  go_wp2_with fail
  refine (markPlc_k _ _ _ T _ 1 L _ Hl1.out HTT.out (by omega) (by have := HT1.out; omega) (by (try simp only [World.size_alloc]); omega) HG_17.out).mono ?_
  rw [← Hmk.out]
  rintro e' w18 ⟨rfl, hfm, hg18⟩
  have HA0_18 := hid (Box.below HA0_17.out hg18 (by (try simp only [World.size_alloc]); omega))
  have HXB0_18 := hid (Box.below HXB0_17.out hg18 (by (try simp only [World.size_alloc]); omega))
  have HB18 := hid (HB17.out.trans (hg18.mono (by (try simp only [World.size_alloc]); omega)))
  have VW_18 := hid (VW_17.out.trans (hg18.mono (by (try simp only [World.size_alloc]); omega)))
  have hs18 : w17.heap.size ≤ w18.heap.size := hg18.size
  clear hxA0 hyA0 hzA0 hxXB0 hyXB0 hzXB0
  clear HA0_17 HXB0_17 HG_17 HB17 hg18
  have HK_18 := hid hfm
  clear hfm
  have hxA0 := HA0_18.out.1
  have hyA0 := HA0_18.out.2
  have hzA0 := HA0_18.out.lt
  have hxXB0 := HXB0_18.out.1
  have hyXB0 := HXB0_18.out.2
  have hzXB0 := HXB0_18.out.lt
  go_wp2_with fail
  refine (heldLists_sees _ _ T _ 1 L _ HLl.out Hl1.out HTT.out (by omega) (by have := HT1.out; omega) HK_18.out.sees).mono ?_
  rw [← Hmk.out]
  rintro e' w18' ⟨rfl, rfl⟩
  clear hxA0 hyA0 hzA0 hxXB0 hyXB0 hzXB0
  have hxA0 := HA0_18.out.1
  have hyA0 := HA0_18.out.2
  have hzA0 := HA0_18.out.lt
  have hxXB0 := HXB0_18.out.1
  have hyXB0 := HXB0_18.out.2
  have hzXB0 := HXB0_18.out.lt
  go_wp2_with fail
  refine (toGraph_any _ _ _ _ es0 _ Hn0.out Hm0.out (Hr0.out.on HB18.out)).mono ?_
  rintro e' w19 ⟨gZ0, rfl, hgZ0, hoZ0, hb19⟩
  have hfZ0 := FreshE.of_own hoZ0 Hn0.out hgZ0
  clear hoZ0 hgZ0
  have HA0_19 := hid (HA0_18.out.on hb19)
  have HXB0_19 := hid (HXB0_18.out.on hb19)
  have HK_19 := hid (HK_18.out.on hb19)
  have HB19 := hid (bfrom HB18.out hb19)
  have VW_19 := hid (bfrom VW_18.out hb19)
  have hs19 : w18.heap.size ≤ w19.heap.size := by have h := hb19.size; omega
  clear hxA0 hyA0 hzA0 hxXB0 hyXB0 hzXB0
  clear HA0_18 HXB0_18 HK_18 HB18 hb19
  have HZ0_19 := hid hfZ0
  have hq := fun g h => hfZ0.own (g := g) h
  have QZ0 := hid hq
  clear hfZ0 hq
  have hxA0 := HA0_19.out.1
  have hyA0 := HA0_19.out.2
  have hzA0 := HA0_19.out.lt
  have hxXB0 := HXB0_19.out.1
  have hyXB0 := HXB0_19.out.2
  have hzXB0 := HXB0_19.out.lt
  go_wp2_with fail
  refine (toInts_sees _ _ _ es1 _ Hn1.out Hm1.out (Hr1.out.on HB19.out)).mono ?_
  rintro e' w20 ⟨gZ1, rfl, hgZ1, hoZ1, hb20⟩
  have hfZ1 := FreshI.of_own hoZ1 Hn1.out hgZ1
  clear hoZ1 hgZ1
  have HA0_20 := hid (HA0_19.out.on hb20)
  have HXB0_20 := hid (HXB0_19.out.on hb20)
  have HK_20 := hid (HK_19.out.on hb20)
  have HZ0_20 := hid (HZ0_19.out.on hb20)
  have HB20 := hid (bfrom HB19.out hb20)
  have VW_20 := hid (bfrom VW_19.out hb20)
  have hs20 : w19.heap.size ≤ w20.heap.size := by have h := hb20.size; omega
  clear hxA0 hyA0 hzA0 hxXB0 hyXB0 hzXB0
  clear HA0_19 HXB0_19 HK_19 HZ0_19 HB19 hb20
  have HZ1_20 := hid hfZ1
  have hq := fun g h => hfZ1.own (g := g) h
  have QZ1 := hid hq
  clear hfZ1 hq
  have hxA0 := HA0_20.out.1
  have hyA0 := HA0_20.out.2
  have hzA0 := HA0_20.out.lt
  have hxXB0 := HXB0_20.out.1
  have hyXB0 := HXB0_20.out.2
  have hzXB0 := HXB0_20.out.lt
  go_wp2_with fail
  refine (HI.out _ _ _ _ _ HZ0_20.out.sees HZ1_20.out.sees).mono ?_
  rintro e' w21 ⟨qH, capH, rfl, hfH, hb21⟩
  have HA0_21 := hid (HA0_20.out.on hb21)
  have HXB0_21 := hid (HXB0_20.out.on hb21)
  have HK_21 := hid (HK_20.out.on hb21)
  have HZ0_21 := hid (HZ0_20.out.on hb21)
  have HZ1_21 := hid (HZ1_20.out.on hb21)
  have HB21 := hid (bfrom HB20.out hb21)
  have VW_21 := hid (bfrom VW_20.out hb21)
  have hs21 : w20.heap.size ≤ w21.heap.size := by have h := hb21.size; omega
  clear hxA0 hyA0 hzA0 hxXB0 hyXB0 hzXB0
  clear HA0_20 HXB0_20 HK_20 HZ0_20 HZ1_20 HB20 hb21
  have HH_21 := hid hfH
  clear hfH
  clear HZ0_21
  clear HZ1_21
  have hxA0 := HA0_21.out.1
  have hyA0 := HA0_21.out.2
  have hzA0 := HA0_21.out.lt
  have hxXB0 := HXB0_21.out.1
  have hyXB0 := HXB0_21.out.2
  have hzXB0 := HXB0_21.out.lt
  go_wp2_with fail
  refine (eqLists_self _ _ _ _ _ L _ HLl.out Hl1.out Hrows.out HH_21.out.sees (HWs.out.on VW_21.out)).mono ?_
  rintro e' w22 ⟨rfl, hb22⟩
  have HA0_22 := hid (HA0_21.out.on hb22)
  have HXB0_22 := hid (HXB0_21.out.on hb22)
  have HK_22 := hid (HK_21.out.on hb22)
  have HH_22 := hid (HH_21.out.on hb22)
  have HB22 := hid (bfrom HB21.out hb22)
  have VW_22 := hid (bfrom VW_21.out hb22)
  have hs22 : w21.heap.size ≤ w22.heap.size := by have h := hb22.size; omega
  clear hxA0 hyA0 hzA0 hxXB0 hyXB0 hzXB0
  clear HA0_21 HXB0_21 HK_21 HH_21 HB21 hb22
  have hxA0 := HA0_22.out.1
  have hyA0 := HA0_22.out.2
  have hzA0 := HA0_22.out.lt
  have hxXB0 := HXB0_22.out.1
  have hyXB0 := HXB0_22.out.2
  have hzXB0 := HXB0_22.out.lt
  go_wp2_with fail
  refine (heldLists_sees _ _ T _ 1 L _ HLl.out Hl1.out HTT.out (by omega) (by have := HT1.out; omega) HK_22.out.sees).mono ?_
  rw [← Hmk.out]
  rintro e' w22' ⟨rfl, rfl⟩
  clear hxA0 hyA0 hzA0 hxXB0 hyXB0 hzXB0
  go_wp2
  go_ret
  exact ⟨rfl, HB22.out⟩

theorem lawFacesOf_any (s0 : Int) (p0 : Option Addr) (n0 c0 : Nat) (es0 : List (Int × Int)) (p1 : Option Addr) (n1 c1 : Nat) (es1 : List Int) (w : World) (hn0 : es0.length = n0) (hl0 : n0 ≤ 9223372036854775807) (hr0 : SeesE w p0 es0) (hn1 : es1.length = n1) (hl1 : n1 ≤ 9223372036854775807) (hr1 : SeesI w p1 es1) :
    Calls Try.prog 5 #[.agg #[.int .i64 s0, .slice p0 n0 c0], .slice p1 n1 c1] w fun e' w' => e' = .returned (.bool true) ∧ Below w.heap.size w w' := by
  rcases Nat.lt_or_ge 1048576 (n1) with h1 | h1
  · exact lawFacesOf_big1 s0 p0 n0 c0 p1 n1 c1 w hl1 (by omega)
  rcases Nat.lt_or_ge 1048576 (n0) with h0 | h0
  · exact lawFacesOf_big0 s0 p0 n0 c0 p1 n1 c1 w hl1 hl0 h1 (by omega)
  exact lawFacesOf_small s0 p0 n0 c0 es0 p1 n1 c1 es1 w hn0 (by omega) hr0 hn1 (by omega) hr1

end Go.Proofs.Ytnimlipogphhmaa
