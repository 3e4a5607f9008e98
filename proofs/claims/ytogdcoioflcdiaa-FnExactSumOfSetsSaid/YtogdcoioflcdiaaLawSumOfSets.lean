/- The law on SumOfSets, walked out of the contracts: it returns true, whatever lies in memory. -/
import Derived.Test.YtogdcoioflcdiaaSumQ
import Derived.Test.YtogdcoioflcdiaaLawsF
import Derived.Deep.RegionWith
import Derived.Deep.DeepCutAuto
namespace Go.Proofs.Ytogdcoioflcdiaa
open Go.RowKit

set_option maxRecDepth 100000 in
set_option maxHeartbeats 8000000 in
theorem lawSumOfSets_big1 (s0 : Int) (p0 : Option Addr) (n0 c0 : Nat) (p1 : Option Addr) (n1 c1 : Nat) (p2 : Option Addr) (n2 c2 : Nat) (w : World) (m1 : n1 ≤ 9223372036854775807) (b1 : 1048576 < n1) :
    Calls Try.prog 3 #[.agg #[.int .i64 s0, .slice p0 n0 c0], .slice p1 n1 c1, .slice p2 n2 c2] w fun e' w' => e' = .returned (.bool true) ∧ Below w.heap.size w w' := by
  go_enter Try.func3, Try.ntmps3
  go_wp2_with fail
  go_ret
  exact ⟨rfl, by go_grown⟩

set_option maxRecDepth 100000 in
set_option maxHeartbeats 8000000 in
theorem lawSumOfSets_big2 (s0 : Int) (p0 : Option Addr) (n0 c0 : Nat) (p1 : Option Addr) (n1 c1 : Nat) (p2 : Option Addr) (n2 c2 : Nat) (w : World) (m1 : n1 ≤ 9223372036854775807) (m2 : n2 ≤ 9223372036854775807) (b1 : n1 ≤ 1048576) (b2 : 1048576 < n2) :
    Calls Try.prog 3 #[.agg #[.int .i64 s0, .slice p0 n0 c0], .slice p1 n1 c1, .slice p2 n2 c2] w fun e' w' => e' = .returned (.bool true) ∧ Below w.heap.size w w' := by
  go_enter Try.func3, Try.ntmps3
  go_wp2_with fail
  go_ret
  exact ⟨rfl, by go_grown⟩

set_option maxRecDepth 100000 in
set_option maxHeartbeats 8000000 in
theorem lawSumOfSets_big0 (s0 : Int) (p0 : Option Addr) (n0 c0 : Nat) (p1 : Option Addr) (n1 c1 : Nat) (p2 : Option Addr) (n2 c2 : Nat) (w : World) (m1 : n1 ≤ 9223372036854775807) (m2 : n2 ≤ 9223372036854775807) (m0 : n0 ≤ 9223372036854775807) (b1 : n1 ≤ 1048576) (b2 : n2 ≤ 1048576) (bg : 1048576 < n0) :
    Calls Try.prog 3 #[.agg #[.int .i64 s0, .slice p0 n0 c0], .slice p1 n1 c1, .slice p2 n2 c2] w fun e' w' => e' = .returned (.bool true) ∧ Below w.heap.size w w' := by
  have BG := hid bg
  clear bg
  go_enter Try.func3, Try.ntmps3
  go_wp2_with fail
  refine (szGraph_any _ _ _ _ _ _ m0 (by omega) (by omega)).mono ?_
  rw [if_pos (by have := BG.out; omega)]
  rintro e' w2 ⟨rfl, hb2⟩
  have hB2 := bfrom (w := w) (by go_grown) hb2
  go_wp2
  go_ret
  exact ⟨rfl, hB2⟩

set_option maxRecDepth 100000 in
set_option maxHeartbeats 8000000 in
theorem lawSumOfSets_small (s0 : Int) (p0 : Option Addr) (n0 c0 : Nat) (es0 : List (Int × Int)) (p1 : Option Addr) (n1 c1 : Nat) (es1 : List Int) (p2 : Option Addr) (n2 c2 : Nat) (es2 : List Int) (w : World) (hn0 : es0.length = n0) (hm0 : n0 ≤ 1048576) (hr0 : SeesE w p0 es0) (hn1 : es1.length = n1) (hm1 : n1 ≤ 1048576) (hr1 : SeesI w p1 es1) (hn2 : es2.length = n2) (hm2 : n2 ≤ 1048576) (hr2 : SeesI w p2 es2) :
    Calls Try.prog 3 #[.agg #[.int .i64 s0, .slice p0 n0 c0], .slice p1 n1 c1, .slice p2 n2 c2] w fun e' w' => e' = .returned (.bool true) ∧ Below w.heap.size w w' := by
  have hq0 : n0 ≤ 9223372036854775807 := by omega
  have hq1 : n1 ≤ 9223372036854775807 := by omega
  have hq2 : n2 ≤ 9223372036854775807 := by omega
  have hge0 : ¬ ((1048576 : Int) - n0 < 0) := by omega
  have Hn0 := hid hn0
  have Hm0 := hid hm0
  have Hr0 := hid hr0
  have Hn1 := hid hn1
  have Hm1 := hid hm1
  have Hr1 := hid hr1
  have Hn2 := hid hn2
  have Hm2 := hid hm2
  have Hr2 := hid hr2
  obtain ⟨L, cd, hR⟩ : ∃ L cd, fSumOfSets s0 es0 es1 es2 = (L, cd) := ⟨_, _, rfl⟩
  obtain ⟨l, hl⟩ : ∃ l, L.length = l := ⟨_, rfl⟩
  have hl1 : l ≤ 1048576 := by have h := fSumOfSets_len s0 es0 es1 es2 (by omega) (by omega) (by omega); rw [hR] at h; rw [← hl]; exact h
  have hl2 : l ≤ 9223372036854775807 := by omega
  obtain ⟨mk, hmk⟩ : ∃ mk : Int, mk = 1 + (l : Int) := ⟨_, rfl⟩
  have hmk0 : decide (mk < 0) = false := by simp; omega
  have hmk1 : (mk != mk) = false := by simp
  have hne0 : (cd != cd) = false := by simp
  have hS := fun (q0 : Option Addr) (cc0 : Nat) (q1 : Option Addr) (cc1 : Nat) (q2 : Option Addr) (cc2 : Nat) (ww : World) (hh0 : SeesE ww q0 es0) (hh1 : SeesI ww q1 es1) (hh2 : SeesI ww q2 es2) => sSumOfSets_any s0 q0 n0 cc0 es0 q1 n1 cc1 es1 q2 n2 cc2 es2 ww hm0 hn0 hh0 hm1 hn1 hh1 hm2 hn2 hh2
  have hI := fun (q0 : Option Addr) (cc0 : Nat) (q1 : Option Addr) (cc1 : Nat) (q2 : Option Addr) (cc2 : Nat) (ww : World) (hh0 : SeesE ww q0 es0) (hh1 : SeesI ww q1 es1) (hh2 : SeesI ww q2 es2) (hc1 : n1 ≤ cc1) (hz1 : q1 = none → cc1 = 0) (hc2 : n2 ≤ cc2) (hz2 : q2 = none → cc2 = 0) => iSumOfSets_any s0 q0 n0 cc0 es0 q1 n1 cc1 es1 q2 n2 cc2 es2 ww hm0 hn0 hh0 hm1 hn1 hh1 hm2 hn2 hh2 hc1 hz1 hc2 hz2
  rw [hR] at hS hI
  dsimp only at hS hI
  rw [hl] at hS hI
  have HLl := hid hl
  have Hl1 := hid hl1
  have Hmk := hid hmk
  have HS := hid hS
  have HI := hid hI
  have hbb1 : n1 ≤ 1048576 := hm1
  have hbb2 : n2 ≤ 1048576 := hm2
  obtain ⟨kk0, hkk0⟩ : ∃ kk0 : Int, kk0 = 1 + 2 * (n0 : Int) := ⟨_, rfl⟩
  have hkb0 : 0 ≤ kk0 ∧ kk0 ≤ 4194304 := by omega
  obtain ⟨kk1, hkk1⟩ : ∃ kk1 : Int, kk1 = kk0 + (n1 : Int) := ⟨_, rfl⟩
  have hkb1 : 0 ≤ kk1 ∧ kk1 ≤ 8388608 := by omega
  obtain ⟨kk2, hkk2⟩ : ∃ kk2 : Int, kk2 = kk1 + (n2 : Int) := ⟨_, rfl⟩
  have hkb2 : 0 ≤ kk2 ∧ kk2 ≤ 12582912 := by omega
  have hkn : decide (kk2 < 0) = false := by simp; omega
  have Hkk0 := hid hkk0
  have Hkb0 := hid hkb0
  have Hkk1 := hid hkk1
  have Hkb1 := hid hkb1
  have Hkk2 := hid hkk2
  have Hkb2 := hid hkb2
  clear hn0 hm0 hr0 hn1 hm1 hr1 hn2 hm2 hr2 hR hS hI hl hl1 hmk hkk0 hkb0 hkk1 hkb1 hkk2 hkb2
  go_enter Try.func3, Try.ntmps3
  go_wp2_with fail
  have HA0_1 : Hid (Box (w.alloc (.cells #[.int .i64 s0, .slice p0 n0 c0] 24)) (w.heap.size) s0 p0 n0 c0) := hid (by have h := (Box.new w s0 p0 n0 c0 24); first | exact h | simpa only [World.size_alloc] using h)
  have HB1 : Hid (Below w.heap.size w (w.alloc (.cells #[.int .i64 s0, .slice p0 n0 c0] 24))) := hid (bfrom (Below.refl _ _) (on_alloc _ (.cells #[.int .i64 s0, .slice p0 n0 c0] 24)))
  refine (szGraph_any _ _ _ _ _ _ hq0 (by omega) (by omega)).mono ?_
  rw [if_neg (by omega)]
  rintro e' w2 ⟨rfl, hb2⟩
  have HA0_2 := hid (HA0_1.out.on hb2)
  have HB2 := hid (bfrom HB1.out hb2)
  have hs2 : w.heap.size + 1 ≤ w2.heap.size := by have h := hb2.size; simp only [World.size_alloc] at h; omega
  clear HA0_1 HB1 hb2
  have hxA0 := HA0_2.out.1
  have hyA0 := HA0_2.out.2
  have hzA0 := HA0_2.out.lt
  go_wp2_with fail
  refine (toGraph_any _ _ _ _ es0 _ Hn0.out Hm0.out (Hr0.out.on HB2.out)).mono ?_
  rintro e' w3 ⟨gT0, rfl, hgT0, hoT0, hb3⟩
  have hfT0 := FreshE.of_own hoT0 Hn0.out hgT0
  clear hoT0 hgT0
  have HA0_3 := hid (HA0_2.out.on hb3)
  have HB3 := hid (bfrom HB2.out hb3)
  have hs3 : w2.heap.size ≤ w3.heap.size := by have h := hb3.size; omega
  clear hxA0 hyA0 hzA0
  clear HA0_2 HB2 hb3
  have HT0_3 := hid hfT0
  have hq := fun g h => hfT0.own (g := g) h
  have QT0 := hid hq
  clear hfT0 hq
  have hxA0 := HA0_3.out.1
  have hyA0 := HA0_3.out.2
  have hzA0 := HA0_3.out.lt
  go_wp2_with fail
  refine (toInts_sees _ _ _ es1 _ Hn1.out Hm1.out (Hr1.out.on HB3.out)).mono ?_
  rintro e' w4 ⟨gT1, rfl, hgT1, hoT1, hb4⟩
  have hfT1 := FreshI.of_own hoT1 Hn1.out hgT1
  clear hoT1 hgT1
  have HA0_4 := hid (HA0_3.out.on hb4)
  have HT0_4 := hid (HT0_3.out.on hb4)
  have HB4 := hid (bfrom HB3.out hb4)
  have hs4 : w3.heap.size ≤ w4.heap.size := by have h := hb4.size; omega
  clear hxA0 hyA0 hzA0
  clear HA0_3 HT0_3 HB3 hb4
  have HT1_4 := hid hfT1
  have hq := fun g h => hfT1.own (g := g) h
  have QT1 := hid hq
  clear hfT1 hq
  have hxA0 := HA0_4.out.1
  have hyA0 := HA0_4.out.2
  have hzA0 := HA0_4.out.lt
  go_wp2_with fail
  refine (toInts_sees _ _ _ es2 _ Hn2.out Hm2.out (Hr2.out.on HB4.out)).mono ?_
  rintro e' w5 ⟨gT2, rfl, hgT2, hoT2, hb5⟩
  have hfT2 := FreshI.of_own hoT2 Hn2.out hgT2
  clear hoT2 hgT2
  have HA0_5 := hid (HA0_4.out.on hb5)
  have HT0_5 := hid (HT0_4.out.on hb5)
  have HT1_5 := hid (HT1_4.out.on hb5)
  have HB5 := hid (bfrom HB4.out hb5)
  have hs5 : w4.heap.size ≤ w5.heap.size := by have h := hb5.size; omega
  clear hxA0 hyA0 hzA0
  clear HA0_4 HT0_4 HT1_4 HB4 hb5
  have HT2_5 := hid hfT2
  have hq := fun g h => hfT2.own (g := g) h
  have QT2 := hid hq
  clear hfT2 hq
  have hxA0 := HA0_5.out.1
  have hyA0 := HA0_5.out.2
  have hzA0 := HA0_5.out.lt
  go_wp2_with fail
  refine (HS.out _ _ _ _ _ _ _ HT0_5.out.sees HT1_5.out.sees HT2_5.out.sees).mono ?_
  rintro e' w6 ⟨qW, capW, rfl, hfW, hb6⟩
  have HA0_6 := hid (HA0_5.out.on hb6)
  have HT0_6 := hid (HT0_5.out.on hb6)
  have HT1_6 := hid (HT1_5.out.on hb6)
  have HT2_6 := hid (HT2_5.out.on hb6)
  have HB6 := hid (bfrom HB5.out hb6)
  have hs6 : w5.heap.size ≤ w6.heap.size := by have h := hb6.size; omega
  clear hxA0 hyA0 hzA0
  clear HA0_5 HT0_5 HT1_5 HT2_5 HB5 hb6
  have HW_6 := hid hfW
  have hq := fun g h => hfW.own (g := g) h
  have QW := hid hq
  clear hfW hq
  clear HT0_6
  clear HT1_6
  clear HT2_6
  have hxA0 := HA0_6.out.1
  have hyA0 := HA0_6.out.2
  have hzA0 := HA0_6.out.lt
  go_wp2_with fail
  refine (toGraph_any _ _ _ _ es0 _ Hn0.out Hm0.out (Hr0.out.on HB6.out)).mono ?_
  rintro e' w7 ⟨gX0, rfl, hgX0, hoX0, hb7⟩
  have hfX0 := FreshE.of_own hoX0 Hn0.out hgX0
  clear hoX0 hgX0
  have HA0_7 := hid (HA0_6.out.on hb7)
  have HW_7 := hid (HW_6.out.on hb7)
  have HB7 := hid (bfrom HB6.out hb7)
  have hs7 : w6.heap.size ≤ w7.heap.size := by have h := hb7.size; omega
  clear hxA0 hyA0 hzA0
  clear HA0_6 HW_6 HB6 hb7
  have HX0_7 := hid hfX0
  have hq := fun g h => hfX0.own (g := g) h
  have QX0 := hid hq
  clear hfX0 hq
  have hxA0 := HA0_7.out.1
  have hyA0 := HA0_7.out.2
  have hzA0 := HA0_7.out.lt
  go_wp2_with fail
  refine (toInts_sees _ _ _ es1 _ Hn1.out Hm1.out (Hr1.out.on (bfrom HB7.out (on_alloc _ _)))).mono ?_
  rintro e' w8 ⟨gX1, rfl, hgX1, hoX1, hb8⟩
  have hfX1 := FreshI.of_own hoX1 Hn1.out hgX1
  clear hoX1 hgX1
  have HA0_8 := hid ((HA0_7.out.on (on_alloc _ _)).on hb8)
  have HW_8 := hid ((HW_7.out.on (on_alloc _ _)).on hb8)
  have HX0_8 := hid ((HX0_7.out.on (on_alloc _ _)).on hb8)
  have HXB0_8 := hid ((Box.new w7 s0 (some ⟨gX0, 0, none⟩) n0 n0 31).on hb8)
  have HB8 := hid (bfrom (bfrom HB7.out (on_alloc _ _)) hb8)
  have hs8 : w7.heap.size + 1 ≤ w8.heap.size := by have h := hb8.size; simp only [World.size_alloc] at h; omega
  clear hxA0 hyA0 hzA0
  clear HA0_7 HW_7 HX0_7 HB7 hb8
  have HX1_8 := hid hfX1
  have hq := fun g h => hfX1.own (g := g) h
  simp only [World.size_alloc] at hq
  have QX1 := hid hq
  clear hfX1 hq
  have hxA0 := HA0_8.out.1
  have hyA0 := HA0_8.out.2
  have hzA0 := HA0_8.out.lt
  have hxXB0 := HXB0_8.out.1
  have hyXB0 := HXB0_8.out.2
  have hzXB0 := HXB0_8.out.lt
  go_wp2_with fail
  refine (toInts_sees _ _ _ es2 _ Hn2.out Hm2.out (Hr2.out.on HB8.out)).mono ?_
  rintro e' w9 ⟨gX2, rfl, hgX2, hoX2, hb9⟩
  have hfX2 := FreshI.of_own hoX2 Hn2.out hgX2
  clear hoX2 hgX2
  have HA0_9 := hid (HA0_8.out.on hb9)
  have HW_9 := hid (HW_8.out.on hb9)
  have HX0_9 := hid (HX0_8.out.on hb9)
  have HXB0_9 := hid (HXB0_8.out.on hb9)
  have HX1_9 := hid (HX1_8.out.on hb9)
  have HB9 := hid (bfrom HB8.out hb9)
  have hs9 : w8.heap.size ≤ w9.heap.size := by have h := hb9.size; omega
  clear hxA0 hyA0 hzA0 hxXB0 hyXB0 hzXB0
  clear HA0_8 HW_8 HX0_8 HXB0_8 HX1_8 HB8 hb9
  have HX2_9 := hid hfX2
  have hq := fun g h => hfX2.own (g := g) h
  have QX2 := hid hq
  clear hfX2 hq
  have hxA0 := HA0_9.out.1
  have hyA0 := HA0_9.out.2
  have hzA0 := HA0_9.out.lt
  have hxXB0 := HXB0_9.out.1
  have hyXB0 := HXB0_9.out.2
  have hzXB0 := HXB0_9.out.lt
  go_wp2_with fail
  refine (HI.out _ _ _ _ _ _ _ HX0_9.out.sees HX1_9.out.sees HX2_9.out.sees (Nat.le_refl _) (fun e => by cases e) (Nat.le_refl _) (fun e => by cases e)).mono ?_
  rintro e' w10 ⟨qG, capG, rfl, hfG, hb10⟩
  have HA0_10 := hid (HA0_9.out.on hb10)
  have HW_10 := hid (HW_9.out.on hb10)
  have HX0_10 := hid (HX0_9.out.on hb10)
  have HXB0_10 := hid (HXB0_9.out.on hb10)
  have HX1_10 := hid (HX1_9.out.on hb10)
  have HX2_10 := hid (HX2_9.out.on hb10)
  have HB10 := hid (bfrom HB9.out hb10)
  have hs10 : w9.heap.size ≤ w10.heap.size := by have h := hb10.size; omega
  clear hxA0 hyA0 hzA0 hxXB0 hyXB0 hzXB0
  clear HA0_9 HW_9 HX0_9 HXB0_9 HX1_9 HX2_9 HB9 hb10
  have HG_10 := hid hfG
  have hq := fun g h => hfG.own (g := g) h
  have QG := hid hq
  clear hfG hq
  have hxA0 := HA0_10.out.1
  have hyA0 := HA0_10.out.2
  have hzA0 := HA0_10.out.lt
  have hxXB0 := HXB0_10.out.1
  have hyXB0 := HXB0_10.out.2
  have hzXB0 := HXB0_10.out.lt
  go_wp2_with fail
  refine (eqInts_self _ _ _ _ _ L _ HLl.out hl2 HG_10.out.sees HW_10.out.sees).mono ?_
  rintro e' w11 ⟨rfl, hb11⟩
  have HA0_11 := hid (HA0_10.out.on hb11)
  have HW_11 := hid (HW_10.out.on hb11)
  have HX0_11 := hid (HX0_10.out.on hb11)
  have HXB0_11 := hid (HXB0_10.out.on hb11)
  have HX1_11 := hid (HX1_10.out.on hb11)
  have HX2_11 := hid (HX2_10.out.on hb11)
  have HG_11 := hid (HG_10.out.on hb11)
  have HB11 := hid (bfrom HB10.out hb11)
  have hs11 : w10.heap.size ≤ w11.heap.size := by have h := hb11.size; omega
  clear hxA0 hyA0 hzA0 hxXB0 hyXB0 hzXB0
  clear HA0_10 HW_10 HX0_10 HXB0_10 HX1_10 HX2_10 HG_10 HB10 hb11
  have hxA0 := HA0_11.out.1
  have hyA0 := HA0_11.out.2
  have hzA0 := HA0_11.out.lt
  have hxXB0 := HXB0_11.out.1
  have hyXB0 := HXB0_11.out.2
  have hzXB0 := HXB0_11.out.lt
  go_upto_region 16 with fail
  go_cut [67] (fun u wx => u = .bool false ∧ Hid (Below w11.heap.size w11 wx))
  case first =>
    go_region_with (first
      | (go_at_call 17; refine (toGraph_any _ _ _ _ es0 _ Hn0.out Hm0.out ?_).mono ?_; (first | exact Hr0.out.on HB11.out | exact Hr0.out.on HB11.out.drew); rintro e' w12 ⟨gY0, rfl, hgY0, hoY0, hb12⟩; have HoY0 := hid hoY0; clear hoY0; have huXB0 := ((bcells hb12).1 _ _ hzXB0).trans hxXB0; have hvXB0 := ((bcells hb12).1 _ _ hzXB0).trans hyXB0)
      | (go_at_call 21; refine (eqGraph_self _ _ _ _ _ _ es0 _ Hn0.out hq0 ?_ ?_).mono ?_; (exact (HX0_11.out.drew.on hb12).sees); (exact HoY0.out.sees); rintro e' w13 ⟨rfl, hb13⟩))
    all_goals (go_wp2_with fail; go_meet; exact ⟨rfl, hid (bfrom (bfrom (Below.refl _ _).drew hb12) hb13)⟩)
  case rest =>
  obtain ⟨rfl, hcb⟩ := hcut
  obtain ⟨w14, rfl⟩ : ∃ w14, w14 = wc := ⟨_, rfl⟩
  have hb14 := hcb.out
  clear hcb
  have HA0_14 := hid (HA0_11.out.on hb14)
  have HW_14 := hid (HW_11.out.on hb14)
  have HX0_14 := hid (HX0_11.out.on hb14)
  have HXB0_14 := hid (HXB0_11.out.on hb14)
  have HX1_14 := hid (HX1_11.out.on hb14)
  have HX2_14 := hid (HX2_11.out.on hb14)
  have HG_14 := hid (HG_11.out.on hb14)
  have HB14 := hid (bfrom HB11.out hb14)
  have hs14 : w11.heap.size ≤ w14.heap.size := hb14.size
  clear hxA0 hyA0 hzA0 hxXB0 hyXB0 hzXB0
  clear HA0_11 HW_11 HX0_11 HXB0_11 HX1_11 HX2_11 HG_11 HB11 hb14
  have hxA0 := HA0_14.out.1
  have hyA0 := HA0_14.out.2
  have hzA0 := HA0_14.out.lt
  have hxXB0 := HXB0_14.out.1
  have hyXB0 := HXB0_14.out.2
  have hzXB0 := HXB0_14.out.lt
  go_wp2_with fail
  refine (toInts_sees _ _ _ es1 _ Hn1.out Hm1.out (Hr1.out.on HB14.out)).mono ?_
  rintro e' w15 ⟨gY1, rfl, hgY1, hoY1, hb15⟩
  have hfY1 := FreshI.of_own hoY1 Hn1.out hgY1
  clear hoY1 hgY1
  have HA0_15 := hid (HA0_14.out.on hb15)
  have HW_15 := hid (HW_14.out.on hb15)
  have HX0_15 := hid (HX0_14.out.on hb15)
  have HXB0_15 := hid (HXB0_14.out.on hb15)
  have HX1_15 := hid (HX1_14.out.on hb15)
  have HX2_15 := hid (HX2_14.out.on hb15)
  have HG_15 := hid (HG_14.out.on hb15)
  have HB15 := hid (bfrom HB14.out hb15)
  have hs15 : w14.heap.size ≤ w15.heap.size := by have h := hb15.size; omega
  clear hxA0 hyA0 hzA0 hxXB0 hyXB0 hzXB0
  clear HA0_14 HW_14 HX0_14 HXB0_14 HX1_14 HX2_14 HG_14 HB14 hb15
  have HY1_15 := hid hfY1
  have hq := fun g h => hfY1.own (g := g) h
  have QY1 := hid hq
  clear hfY1 hq
  have hxA0 := HA0_15.out.1
  have hyA0 := HA0_15.out.2
  have hzA0 := HA0_15.out.lt
  have hxXB0 := HXB0_15.out.1
  have hyXB0 := HXB0_15.out.2
  have hzXB0 := HXB0_15.out.lt
  go_wp2_with fail
  refine (eqInts_self _ _ _ _ _ es1 _ Hn1.out hq1 HX1_15.out.sees HY1_15.out.sees).mono ?_
  rintro e' w16 ⟨rfl, hb16⟩
  have HA0_16 := hid (HA0_15.out.on hb16)
  have HW_16 := hid (HW_15.out.on hb16)
  have HX0_16 := hid (HX0_15.out.on hb16)
  have HXB0_16 := hid (HXB0_15.out.on hb16)
  have HX1_16 := hid (HX1_15.out.on hb16)
  have HX2_16 := hid (HX2_15.out.on hb16)
  have HG_16 := hid (HG_15.out.on hb16)
  have HY1_16 := hid (HY1_15.out.on hb16)
  have HB16 := hid (bfrom HB15.out hb16)
  have hs16 : w15.heap.size ≤ w16.heap.size := by have h := hb16.size; omega
  clear hxA0 hyA0 hzA0 hxXB0 hyXB0 hzXB0
  clear HA0_15 HW_15 HX0_15 HXB0_15 HX1_15 HX2_15 HG_15 HY1_15 HB15 hb16
  clear HY1_16
  have hxA0 := HA0_16.out.1
  have hyA0 := HA0_16.out.2
  have hzA0 := HA0_16.out.lt
  have hxXB0 := HXB0_16.out.1
  have hyXB0 := HXB0_16.out.2
  have hzXB0 := HXB0_16.out.lt
  go_wp2_with fail
  refine (toInts_sees _ _ _ es2 _ Hn2.out Hm2.out (Hr2.out.on HB16.out)).mono ?_
  rintro e' w17 ⟨gY2, rfl, hgY2, hoY2, hb17⟩
  have hfY2 := FreshI.of_own hoY2 Hn2.out hgY2
  clear hoY2 hgY2
  have HA0_17 := hid (HA0_16.out.on hb17)
  have HW_17 := hid (HW_16.out.on hb17)
  have HX0_17 := hid (HX0_16.out.on hb17)
  have HXB0_17 := hid (HXB0_16.out.on hb17)
  have HX1_17 := hid (HX1_16.out.on hb17)
  have HX2_17 := hid (HX2_16.out.on hb17)
  have HG_17 := hid (HG_16.out.on hb17)
  have HB17 := hid (bfrom HB16.out hb17)
  have hs17 : w16.heap.size ≤ w17.heap.size := by have h := hb17.size; omega
  clear hxA0 hyA0 hzA0 hxXB0 hyXB0 hzXB0
  clear HA0_16 HW_16 HX0_16 HXB0_16 HX1_16 HX2_16 HG_16 HB16 hb17
  have HY2_17 := hid hfY2
  have hq := fun g h => hfY2.own (g := g) h
  have QY2 := hid hq
  clear hfY2 hq
  have hxA0 := HA0_17.out.1
  have hyA0 := HA0_17.out.2
  have hzA0 := HA0_17.out.lt
  have hxXB0 := HXB0_17.out.1
  have hyXB0 := HXB0_17.out.2
  have hzXB0 := HXB0_17.out.lt
  go_wp2_with fail
  refine (eqInts_self _ _ _ _ _ es2 _ Hn2.out hq2 HX2_17.out.sees HY2_17.out.sees).mono ?_
  rintro e' w18 ⟨rfl, hb18⟩
  have HA0_18 := hid (HA0_17.out.on hb18)
  have HW_18 := hid (HW_17.out.on hb18)
  have HX0_18 := hid (HX0_17.out.on hb18)
  have HXB0_18 := hid (HXB0_17.out.on hb18)
  have HX1_18 := hid (HX1_17.out.on hb18)
  have HX2_18 := hid (HX2_17.out.on hb18)
  have HG_18 := hid (HG_17.out.on hb18)
  have HY2_18 := hid (HY2_17.out.on hb18)
  have HB18 := hid (bfrom HB17.out hb18)
  have hs18 : w17.heap.size ≤ w18.heap.size := by have h := hb18.size; omega
  clear hxA0 hyA0 hzA0 hxXB0 hyXB0 hzXB0
  clear HA0_17 HW_17 HX0_17 HXB0_17 HX1_17 HX2_17 HG_17 HY2_17 HB17 hb18
  clear HY2_18
  have hxA0 := HA0_18.out.1
  have hyA0 := HA0_18.out.2
  have hzA0 := HA0_18.out.lt
  have hxXB0 := HXB0_18.out.1
  have hyXB0 := HXB0_18.out.2
  have hzXB0 := HXB0_18.out.lt
  go_wp2_with fail
  refine (markGraph_k _ _ _ _ 1 es0 _ Hm0.out (by omega) (by omega) HX0_18.out).mono ?_
  rw [← Hkk0.out]
  rintro e' w19 ⟨rfl, hfm0, hg19⟩
  have HA0_19 := hid (HA0_18.out.kept hg19 (sep_box QX0.out (by omega)))
  have HW_19 := hid (HW_18.out.kept hg19 (sep_own QX0.out QW.out (by omega)))
  have HXB0_19 := hid (HXB0_18.out.kept hg19 (sep_box QX0.out (by omega)))
  have HX1_19 := hid (HX1_18.out.kept hg19 (sep_own QX0.out QX1.out (by omega)))
  have HX2_19 := hid (HX2_18.out.kept hg19 (sep_own QX0.out QX2.out (by omega)))
  have HG_19 := hid (HG_18.out.kept hg19 (sep_own QX0.out QG.out (by omega)))
  have HB19 := hid (HB18.out.grown hg19 HB18.out.size (fun k hk => by have h := (QX0.out k hk).1; omega))
  have hs19 : w18.heap.size ≤ w19.heap.size := hg19.size
  clear hxA0 hyA0 hzA0 hxXB0 hyXB0 hzXB0
  clear HA0_18 HW_18 HX0_18 HXB0_18 HX1_18 HX2_18 HG_18 HB18 hg19
  clear hfm0
  have hxA0 := HA0_19.out.1
  have hyA0 := HA0_19.out.2
  have hzA0 := HA0_19.out.lt
  have hxXB0 := HXB0_19.out.1
  have hyXB0 := HXB0_19.out.2
  have hzXB0 := HXB0_19.out.lt
  go_wp2_with fail
  refine (markInts_k _ _ _ kk0 es1 _ Hm1.out Hkb0.out.1 (by have := Hkb0.out.2; omega) HX1_19.out).mono ?_
  rw [← Hkk1.out]
  rintro e' w20 ⟨rfl, hfm1, hg20⟩
  have HA0_20 := hid (HA0_19.out.kept hg20 (sep_box QX1.out (by omega)))
  have HW_20 := hid (HW_19.out.kept hg20 (sep_own QX1.out QW.out (by omega)))
  have HXB0_20 := hid (HXB0_19.out.kept hg20 (sep_box QX1.out (by omega)))
  have HX2_20 := hid (HX2_19.out.kept hg20 (sep_own QX1.out QX2.out (by omega)))
  have HG_20 := hid (HG_19.out.kept hg20 (sep_own QX1.out QG.out (by omega)))
  have HB20 := hid (HB19.out.grown hg20 HB19.out.size (fun k hk => by have h := (QX1.out k hk).1; omega))
  have hs20 : w19.heap.size ≤ w20.heap.size := hg20.size
  clear hxA0 hyA0 hzA0 hxXB0 hyXB0 hzXB0
  clear HA0_19 HW_19 HXB0_19 HX1_19 HX2_19 HG_19 HB19 hg20
  clear hfm1
  have hxA0 := HA0_20.out.1
  have hyA0 := HA0_20.out.2
  have hzA0 := HA0_20.out.lt
  have hxXB0 := HXB0_20.out.1
  have hyXB0 := HXB0_20.out.2
  have hzXB0 := HXB0_20.out.lt
  go_wp2_with fail
  refine (markInts_k _ _ _ kk1 es2 _ Hm2.out Hkb1.out.1 (by have := Hkb1.out.2; omega) HX2_20.out).mono ?_
  rw [← Hkk2.out]
  rintro e' w21 ⟨rfl, hfm2, hg21⟩
  have HA0_21 := hid (HA0_20.out.kept hg21 (sep_box QX2.out (by omega)))
  have HW_21 := hid (HW_20.out.kept hg21 (sep_own QX2.out QW.out (by omega)))
  have HXB0_21 := hid (HXB0_20.out.kept hg21 (sep_box QX2.out (by omega)))
  have HG_21 := hid (HG_20.out.kept hg21 (sep_own QX2.out QG.out (by omega)))
  have HB21 := hid (HB20.out.grown hg21 HB20.out.size (fun k hk => by have h := (QX2.out k hk).1; omega))
  have hs21 : w20.heap.size ≤ w21.heap.size := hg21.size
  clear hxA0 hyA0 hzA0 hxXB0 hyXB0 hzXB0
  clear HA0_20 HW_20 HXB0_20 HX2_20 HG_20 HB20 hg21
  clear hfm2
  have hxA0 := HA0_21.out.1
  have hyA0 := HA0_21.out.2
  have hzA0 := HA0_21.out.lt
  have hxXB0 := HXB0_21.out.1
  have hyXB0 := HXB0_21.out.2
  have hzXB0 := HXB0_21.out.lt
  go_wp2_with fail
  refine (eqInts_self _ _ _ _ _ L _ HLl.out hl2 HG_21.out.sees HW_21.out.sees).mono ?_
  rintro e' w22 ⟨rfl, hb22⟩
  have HA0_22 := hid (HA0_21.out.on hb22)
  have HW_22 := hid (HW_21.out.on hb22)
  have HXB0_22 := hid (HXB0_21.out.on hb22)
  have HG_22 := hid (HG_21.out.on hb22)
  have HB22 := hid (bfrom HB21.out hb22)
  have hs22 : w21.heap.size ≤ w22.heap.size := by have h := hb22.size; omega
  clear hxA0 hyA0 hzA0 hxXB0 hyXB0 hzXB0
  clear HA0_21 HW_21 HXB0_21 HG_21 HB21 hb22
  have hxA0 := HA0_22.out.1
  have hyA0 := HA0_22.out.2
  have hzA0 := HA0_22.out.lt
  have hxXB0 := HXB0_22.out.1
  have hyXB0 := HXB0_22.out.2
  have hzXB0 := HXB0_22.out.lt
  go_wp2_with fail
  refine (markInts_k _ _ _ 1 L _ Hl1.out (by omega) (by omega) HG_22.out).mono ?_
  rw [← Hmk.out]
  rintro e' w23 ⟨rfl, hfm, hg23⟩
  have HA0_23 := hid (HA0_22.out.kept hg23 (sep_box QG.out (by omega)))
  have HW_23 := hid (HW_22.out.kept hg23 (sep_own QG.out QW.out (by omega)))
  have HXB0_23 := hid (HXB0_22.out.kept hg23 (sep_box QG.out (by omega)))
  have HB23 := hid (HB22.out.grown hg23 HB22.out.size (fun k hk => by have h := (QG.out k hk).1; omega))
  have hs23 : w22.heap.size ≤ w23.heap.size := hg23.size
  clear hxA0 hyA0 hzA0 hxXB0 hyXB0 hzXB0
  clear HA0_22 HW_22 HXB0_22 HG_22 HB22 hg23
  have HK_23 := hid hfm
  have hq := fun g h => hfm.own (g := g) h
  have QK := hid hq
  clear hfm hq
  have hxA0 := HA0_23.out.1
  have hyA0 := HA0_23.out.2
  have hzA0 := HA0_23.out.lt
  have hxXB0 := HXB0_23.out.1
  have hyXB0 := HXB0_23.out.2
  have hzXB0 := HXB0_23.out.lt
  go_wp2_with fail
  refine (heldInts_sees _ _ _ _ Hl1.out HK_23.out.sees).mono ?_
  rw [← Hmk.out]
  rintro e' w23' ⟨rfl, rfl⟩
  clear hxA0 hyA0 hzA0 hxXB0 hyXB0 hzXB0
  have hxA0 := HA0_23.out.1
  have hyA0 := HA0_23.out.2
  have hzA0 := HA0_23.out.lt
  have hxXB0 := HXB0_23.out.1
  have hyXB0 := HXB0_23.out.2
  have hzXB0 := HXB0_23.out.lt
  go_wp2_with fail
  refine (toGraph_any _ _ _ _ es0 _ Hn0.out Hm0.out (Hr0.out.on HB23.out)).mono ?_
  rintro e' w24 ⟨gZ0, rfl, hgZ0, hoZ0, hb24⟩
  have hfZ0 := FreshE.of_own hoZ0 Hn0.out hgZ0
  clear hoZ0 hgZ0
  have HA0_24 := hid (HA0_23.out.on hb24)
  have HW_24 := hid (HW_23.out.on hb24)
  have HXB0_24 := hid (HXB0_23.out.on hb24)
  have HK_24 := hid (HK_23.out.on hb24)
  have HB24 := hid (bfrom HB23.out hb24)
  have hs24 : w23.heap.size ≤ w24.heap.size := by have h := hb24.size; omega
  clear hxA0 hyA0 hzA0 hxXB0 hyXB0 hzXB0
  clear HA0_23 HW_23 HXB0_23 HK_23 HB23 hb24
  have HZ0_24 := hid hfZ0
  have hq := fun g h => hfZ0.own (g := g) h
  have QZ0 := hid hq
  clear hfZ0 hq
  have hxA0 := HA0_24.out.1
  have hyA0 := HA0_24.out.2
  have hzA0 := HA0_24.out.lt
  have hxXB0 := HXB0_24.out.1
  have hyXB0 := HXB0_24.out.2
  have hzXB0 := HXB0_24.out.lt
  go_wp2_with fail
  refine (toInts_sees _ _ _ es1 _ Hn1.out Hm1.out (Hr1.out.on HB24.out)).mono ?_
  rintro e' w25 ⟨gZ1, rfl, hgZ1, hoZ1, hb25⟩
  have hfZ1 := FreshI.of_own hoZ1 Hn1.out hgZ1
  clear hoZ1 hgZ1
  have HA0_25 := hid (HA0_24.out.on hb25)
  have HW_25 := hid (HW_24.out.on hb25)
  have HXB0_25 := hid (HXB0_24.out.on hb25)
  have HK_25 := hid (HK_24.out.on hb25)
  have HZ0_25 := hid (HZ0_24.out.on hb25)
  have HB25 := hid (bfrom HB24.out hb25)
  have hs25 : w24.heap.size ≤ w25.heap.size := by have h := hb25.size; omega
  clear hxA0 hyA0 hzA0 hxXB0 hyXB0 hzXB0
  clear HA0_24 HW_24 HXB0_24 HK_24 HZ0_24 HB24 hb25
  have HZ1_25 := hid hfZ1
  have hq := fun g h => hfZ1.own (g := g) h
  have QZ1 := hid hq
  clear hfZ1 hq
  have hxA0 := HA0_25.out.1
  have hyA0 := HA0_25.out.2
  have hzA0 := HA0_25.out.lt
  have hxXB0 := HXB0_25.out.1
  have hyXB0 := HXB0_25.out.2
  have hzXB0 := HXB0_25.out.lt
  go_wp2_with fail
  refine (toInts_sees _ _ _ es2 _ Hn2.out Hm2.out (Hr2.out.on HB25.out)).mono ?_
  rintro e' w26 ⟨gZ2, rfl, hgZ2, hoZ2, hb26⟩
  have hfZ2 := FreshI.of_own hoZ2 Hn2.out hgZ2
  clear hoZ2 hgZ2
  have HA0_26 := hid (HA0_25.out.on hb26)
  have HW_26 := hid (HW_25.out.on hb26)
  have HXB0_26 := hid (HXB0_25.out.on hb26)
  have HK_26 := hid (HK_25.out.on hb26)
  have HZ0_26 := hid (HZ0_25.out.on hb26)
  have HZ1_26 := hid (HZ1_25.out.on hb26)
  have HB26 := hid (bfrom HB25.out hb26)
  have hs26 : w25.heap.size ≤ w26.heap.size := by have h := hb26.size; omega
  clear hxA0 hyA0 hzA0 hxXB0 hyXB0 hzXB0
  clear HA0_25 HW_25 HXB0_25 HK_25 HZ0_25 HZ1_25 HB25 hb26
  have HZ2_26 := hid hfZ2
  have hq := fun g h => hfZ2.own (g := g) h
  have QZ2 := hid hq
  clear hfZ2 hq
  have hxA0 := HA0_26.out.1
  have hyA0 := HA0_26.out.2
  have hzA0 := HA0_26.out.lt
  have hxXB0 := HXB0_26.out.1
  have hyXB0 := HXB0_26.out.2
  have hzXB0 := HXB0_26.out.lt
  go_wp2_with fail
  refine (HI.out _ _ _ _ _ _ _ HZ0_26.out.sees HZ1_26.out.sees HZ2_26.out.sees (Nat.le_refl _) (fun e => by cases e) (Nat.le_refl _) (fun e => by cases e)).mono ?_
  rintro e' w27 ⟨qH, capH, rfl, hfH, hb27⟩
  have HA0_27 := hid (HA0_26.out.on hb27)
  have HW_27 := hid (HW_26.out.on hb27)
  have HXB0_27 := hid (HXB0_26.out.on hb27)
  have HK_27 := hid (HK_26.out.on hb27)
  have HZ0_27 := hid (HZ0_26.out.on hb27)
  have HZ1_27 := hid (HZ1_26.out.on hb27)
  have HZ2_27 := hid (HZ2_26.out.on hb27)
  have HB27 := hid (bfrom HB26.out hb27)
  have hs27 : w26.heap.size ≤ w27.heap.size := by have h := hb27.size; omega
  clear hxA0 hyA0 hzA0 hxXB0 hyXB0 hzXB0
  clear HA0_26 HW_26 HXB0_26 HK_26 HZ0_26 HZ1_26 HZ2_26 HB26 hb27
  have HH_27 := hid hfH
  have hq := fun g h => hfH.own (g := g) h
  have QH := hid hq
  clear hfH hq
  clear HZ0_27
  clear HZ1_27
  clear HZ2_27
  have hxA0 := HA0_27.out.1
  have hyA0 := HA0_27.out.2
  have hzA0 := HA0_27.out.lt
  have hxXB0 := HXB0_27.out.1
  have hyXB0 := HXB0_27.out.2
  have hzXB0 := HXB0_27.out.lt
  go_wp2_with fail
  refine (eqInts_self _ _ _ _ _ L _ HLl.out hl2 HH_27.out.sees HW_27.out.sees).mono ?_
  rintro e' w28 ⟨rfl, hb28⟩
  have HA0_28 := hid (HA0_27.out.on hb28)
  have HW_28 := hid (HW_27.out.on hb28)
  have HXB0_28 := hid (HXB0_27.out.on hb28)
  have HK_28 := hid (HK_27.out.on hb28)
  have HH_28 := hid (HH_27.out.on hb28)
  have HB28 := hid (bfrom HB27.out hb28)
  have hs28 : w27.heap.size ≤ w28.heap.size := by have h := hb28.size; omega
  clear hxA0 hyA0 hzA0 hxXB0 hyXB0 hzXB0
  clear HA0_27 HW_27 HXB0_27 HK_27 HH_27 HB27 hb28
  have hxA0 := HA0_28.out.1
  have hyA0 := HA0_28.out.2
  have hzA0 := HA0_28.out.lt
  have hxXB0 := HXB0_28.out.1
  have hyXB0 := HXB0_28.out.2
  have hzXB0 := HXB0_28.out.lt
  go_wp2_with fail
  refine (heldInts_sees _ _ _ _ Hl1.out HK_28.out.sees).mono ?_
  rw [← Hmk.out]
  rintro e' w28' ⟨rfl, rfl⟩
  clear hxA0 hyA0 hzA0 hxXB0 hyXB0 hzXB0
  go_wp2
  go_ret
  exact ⟨rfl, HB28.out⟩

theorem lawSumOfSets_any (s0 : Int) (p0 : Option Addr) (n0 c0 : Nat) (es0 : List (Int × Int)) (p1 : Option Addr) (n1 c1 : Nat) (es1 : List Int) (p2 : Option Addr) (n2 c2 : Nat) (es2 : List Int) (w : World) (hn0 : es0.length = n0) (hl0 : n0 ≤ 9223372036854775807) (hr0 : SeesE w p0 es0) (hn1 : es1.length = n1) (hl1 : n1 ≤ 9223372036854775807) (hr1 : SeesI w p1 es1) (hn2 : es2.length = n2) (hl2 : n2 ≤ 9223372036854775807) (hr2 : SeesI w p2 es2) :
    Calls Try.prog 3 #[.agg #[.int .i64 s0, .slice p0 n0 c0], .slice p1 n1 c1, .slice p2 n2 c2] w fun e' w' => e' = .returned (.bool true) ∧ Below w.heap.size w w' := by
  rcases Nat.lt_or_ge 1048576 (n1) with h1 | h1
  · exact lawSumOfSets_big1 s0 p0 n0 c0 p1 n1 c1 p2 n2 c2 w hl1 (by omega)
  rcases Nat.lt_or_ge 1048576 (n2) with h2 | h2
  · exact lawSumOfSets_big2 s0 p0 n0 c0 p1 n1 c1 p2 n2 c2 w hl1 hl2 h1 (by omega)
  rcases Nat.lt_or_ge 1048576 (n0) with h0 | h0
  · exact lawSumOfSets_big0 s0 p0 n0 c0 p1 n1 c1 p2 n2 c2 w hl1 hl2 hl0 h1 h2 (by omega)
  exact lawSumOfSets_small s0 p0 n0 c0 es0 p1 n1 c1 es1 p2 n2 c2 es2 w hn0 (by omega) hr0 hn1 (by omega) hr1 hn2 (by omega) hr2

end Go.Proofs.Ytogdcoioflcdiaa
