/- The law on AreAlike, walked out of the contracts: it returns true, whatever lies in memory. -/
import Derived.Test.YtkcljjbjlhageabAlikeJ
import Derived.Test.YtkcljjbjlhageabLawsF
import Derived.Deep.RegionWith
import Derived.Deep.DeepCutAuto
namespace Go.Proofs.Ytkcljjbjlhageab
open Go.RowKit

set_option maxRecDepth 100000 in
set_option maxHeartbeats 8000000 in
theorem lawAreAlike_big1 (s0 : Int) (p0 : Option Addr) (n0 c0 : Nat) (p1 : Option Addr) (n1 c1 : Nat) (p2 : Option Addr) (n2 c2 : Nat) (w : World) (m1 : n1 ≤ 9223372036854775807) (b1 : 1048576 < n1) :
    Calls Try.prog 8 #[.agg #[.int .i64 s0, .slice p0 n0 c0], .slice p1 n1 c1, .slice p2 n2 c2] w fun e' w' => e' = .returned (.bool true) ∧ Below w.heap.size w w' := by
  go_enter Try.func8, Try.ntmps8
  go_wp2_with fail
  go_ret
  exact ⟨rfl, by go_grown⟩

set_option maxRecDepth 100000 in
set_option maxHeartbeats 8000000 in
theorem lawAreAlike_big2 (s0 : Int) (p0 : Option Addr) (n0 c0 : Nat) (p1 : Option Addr) (n1 c1 : Nat) (p2 : Option Addr) (n2 c2 : Nat) (w : World) (m1 : n1 ≤ 9223372036854775807) (m2 : n2 ≤ 9223372036854775807) (b1 : n1 ≤ 1048576) (b2 : 1048576 < n2) :
    Calls Try.prog 8 #[.agg #[.int .i64 s0, .slice p0 n0 c0], .slice p1 n1 c1, .slice p2 n2 c2] w fun e' w' => e' = .returned (.bool true) ∧ Below w.heap.size w w' := by
  go_enter Try.func8, Try.ntmps8
  go_wp2_with fail
  go_ret
  exact ⟨rfl, by go_grown⟩

set_option maxRecDepth 100000 in
set_option maxHeartbeats 8000000 in
theorem lawAreAlike_big0 (s0 : Int) (p0 : Option Addr) (n0 c0 : Nat) (p1 : Option Addr) (n1 c1 : Nat) (p2 : Option Addr) (n2 c2 : Nat) (w : World) (m1 : n1 ≤ 9223372036854775807) (m2 : n2 ≤ 9223372036854775807) (m0 : n0 ≤ 9223372036854775807) (b1 : n1 ≤ 1048576) (b2 : n2 ≤ 1048576) (bg : 1048576 < n0) :
    Calls Try.prog 8 #[.agg #[.int .i64 s0, .slice p0 n0 c0], .slice p1 n1 c1, .slice p2 n2 c2] w fun e' w' => e' = .returned (.bool true) ∧ Below w.heap.size w w' := by
  have BG := hid bg
  clear bg
  go_enter Try.func8, Try.ntmps8
  go_wp2_with fail
  refine (szGraph_any _ _ _ _ _ _ m0 (by omega) (by omega)).mono ?_
  rw [if_pos (by have := BG.out; omega)]
  rintro e' w2 ⟨rfl, hb2⟩
  have hB2 := bfrom (w := w) (by go_grown) hb2
  go_wp2
  go_ret
  exact ⟨rfl, hB2⟩

set_option maxRecDepth 100000 in
set_option maxHeartbeats 8000000 in
theorem lawAreAlike_small (s0 : Int) (p0 : Option Addr) (n0 c0 : Nat) (es0 : List (Int × Int)) (p1 : Option Addr) (n1 c1 : Nat) (es1 : List Int) (p2 : Option Addr) (n2 c2 : Nat) (es2 : List Int) (w : World) (hn0 : es0.length = n0) (hm0 : n0 ≤ 1048576) (hr0 : SeesE w p0 es0) (hn1 : es1.length = n1) (hm1 : n1 ≤ 1048576) (hr1 : SeesI w p1 es1) (hn2 : es2.length = n2) (hm2 : n2 ≤ 1048576) (hr2 : SeesI w p2 es2) :
    Calls Try.prog 8 #[.agg #[.int .i64 s0, .slice p0 n0 c0], .slice p1 n1 c1, .slice p2 n2 c2] w fun e' w' => e' = .returned (.bool true) ∧ Below w.heap.size w w' := by
  have hq0 : n0 ≤ 9223372036854775807 := by omega
  have hq1 : n1 ≤ 9223372036854775807 := by omega
  have hq2 : n2 ≤ 9223372036854775807 := by omega
  have hge0 : ¬ ((1048576 : Int) - n0 < 0) := by omega
  have Hn0 := hid hn0
  have Hm0 := hid hm0
  have Hr0 := hid hr0
  have Hn1 := hid hn1
  have Hm1 := hid hm1
  have Hr1 := hid hr1
  have Hn2 := hid hn2
  have Hm2 := hid hm2
  have Hr2 := hid hr2
  obtain ⟨r0, cd, hR⟩ : ∃ r0 cd, fAreAlike s0 es0 es1 es2 = (r0, cd) := ⟨_, _, rfl⟩
  have hne1 : (r0 != r0) = false := by simp
  have hne0 : (cd != cd) = false := by simp
  have hS := fun (q0 : Option Addr) (cc0 : Nat) (q1 : Option Addr) (cc1 : Nat) (q2 : Option Addr) (cc2 : Nat) (ww : World) (hh0 : SeesE ww q0 es0) (hh1 : SeesI ww q1 es1) (hh2 : SeesI ww q2 es2) => sAreAlike_any s0 q0 n0 cc0 es0 q1 n1 cc1 es1 q2 n2 cc2 es2 ww hm0 hn0 hh0 hm1 hn1 hh1 hm2 hn2 hh2
  have hI := fun (q0 : Option Addr) (cc0 : Nat) (q1 : Option Addr) (cc1 : Nat) (q2 : Option Addr) (cc2 : Nat) (ww : World) (hh0 : SeesE ww q0 es0) (hh1 : SeesI ww q1 es1) (hh2 : SeesI ww q2 es2) => iAreAlike_any s0 q0 n0 cc0 es0 q1 n1 cc1 es1 q2 n2 cc2 es2 ww hm0 hn0 hh0 hm1 hn1 hh1 hm2 hn2 hh2
  rw [hR] at hS hI
  dsimp only at hS hI
  have HS := hid hS
  have HI := hid hI
  have hbb1 : n1 ≤ 1048576 := hm1
  have hbb2 : n2 ≤ 1048576 := hm2
  clear hn0 hm0 hr0 hn1 hm1 hr1 hn2 hm2 hr2 hR hS hI
  go_enter Try.func8, Try.ntmps8
  go_wp2_with fail
  have HA0_1 : Hid (Box (w.alloc (.cells #[.int .i64 s0, .slice p0 n0 c0] 24)) (w.heap.size) s0 p0 n0 c0) := hid (by have h := (Box.new w s0 p0 n0 c0 24); first | exact h | simpa only [World.size_alloc] using h)
  have HB1 : Hid (Below w.heap.size w (w.alloc (.cells #[.int .i64 s0, .slice p0 n0 c0] 24))) := hid (bfrom (Below.refl _ _) (on_alloc _ (.cells #[.int .i64 s0, .slice p0 n0 c0] 24)))
  refine (szGraph_any _ _ _ _ _ _ hq0 (by omega) (by omega)).mono ?_
  rw [if_neg (by omega)]
  rintro e' w2 ⟨rfl, hb2⟩
  have HA0_2 := hid (HA0_1.out.on hb2)
  have HB2 := hid (bfrom HB1.out hb2)
  have hs2 : w.heap.size + 1 ≤ w2.heap.size := by have h := hb2.size; simp only [World.size_alloc] at h; omega
  clear HA0_1 HB1 hb2
  have hxA0 := HA0_2.out.1
  have hyA0 := HA0_2.out.2
  have hzA0 := HA0_2.out.lt
  go_wp2_with fail
  refine (toGraph_any _ _ _ _ es0 _ Hn0.out Hm0.out (Hr0.out.on HB2.out)).mono ?_
  rintro e' w3 ⟨gT0, rfl, hgT0, hoT0, hb3⟩
  have hfT0 := FreshE.of_own hoT0 Hn0.out hgT0
  clear hoT0 hgT0
  have HA0_3 := hid (HA0_2.out.on hb3)
  have HB3 := hid (bfrom HB2.out hb3)
  have hs3 : w2.heap.size ≤ w3.heap.size := by have h := hb3.size; omega
  clear hxA0 hyA0 hzA0
  clear HA0_2 HB2 hb3
  have HT0_3 := hid hfT0
  have hq := fun g h => hfT0.own (g := g) h
  have QT0 := hid hq
  clear hfT0 hq
  have hxA0 := HA0_3.out.1
  have hyA0 := HA0_3.out.2
  have hzA0 := HA0_3.out.lt
  go_wp2_with fail
  refine (toInts_sees _ _ _ es1 _ Hn1.out Hm1.out (Hr1.out.on HB3.out)).mono ?_
  rintro e' w4 ⟨gT1, rfl, hgT1, hoT1, hb4⟩
  have hfT1 := FreshI.of_own hoT1 Hn1.out hgT1
  clear hoT1 hgT1
  have HA0_4 := hid (HA0_3.out.on hb4)
  have HT0_4 := hid (HT0_3.out.on hb4)
  have HB4 := hid (bfrom HB3.out hb4)
  have hs4 : w3.heap.size ≤ w4.heap.size := by have h := hb4.size; omega
  clear hxA0 hyA0 hzA0
  clear HA0_3 HT0_3 HB3 hb4
  have HT1_4 := hid hfT1
  have hq := fun g h => hfT1.own (g := g) h
  have QT1 := hid hq
  clear hfT1 hq
  have hxA0 := HA0_4.out.1
  have hyA0 := HA0_4.out.2
  have hzA0 := HA0_4.out.lt
  go_wp2_with fail
  refine (toInts_sees _ _ _ es2 _ Hn2.out Hm2.out (Hr2.out.on HB4.out)).mono ?_
  rintro e' w5 ⟨gT2, rfl, hgT2, hoT2, hb5⟩
  have hfT2 := FreshI.of_own hoT2 Hn2.out hgT2
  clear hoT2 hgT2
  have HA0_5 := hid (HA0_4.out.on hb5)
  have HT0_5 := hid (HT0_4.out.on hb5)
  have HT1_5 := hid (HT1_4.out.on hb5)
  have HB5 := hid (bfrom HB4.out hb5)
  have hs5 : w4.heap.size ≤ w5.heap.size := by have h := hb5.size; omega
  clear hxA0 hyA0 hzA0
  clear HA0_4 HT0_4 HT1_4 HB4 hb5
  have HT2_5 := hid hfT2
  have hq := fun g h => hfT2.own (g := g) h
  have QT2 := hid hq
  clear hfT2 hq
  have hxA0 := HA0_5.out.1
  have hyA0 := HA0_5.out.2
  have hzA0 := HA0_5.out.lt
  go_wp2_with fail
  refine (HS.out _ _ _ _ _ _ _ HT0_5.out.sees HT1_5.out.sees HT2_5.out.sees).mono ?_
  rintro e' w6 ⟨rfl, hb6⟩
  have HA0_6 := hid (HA0_5.out.on hb6)
  have HT0_6 := hid (HT0_5.out.on hb6)
  have HT1_6 := hid (HT1_5.out.on hb6)
  have HT2_6 := hid (HT2_5.out.on hb6)
  have HB6 := hid (bfrom HB5.out hb6)
  have hs6 : w5.heap.size ≤ w6.heap.size := by have h := hb6.size; omega
  clear hxA0 hyA0 hzA0
  clear HA0_5 HT0_5 HT1_5 HT2_5 HB5 hb6
  clear HT0_6
  clear HT1_6
  clear HT2_6
  have hxA0 := HA0_6.out.1
  have hyA0 := HA0_6.out.2
  have hzA0 := HA0_6.out.lt
  go_wp2_with fail
  refine (toGraph_any _ _ _ _ es0 _ Hn0.out Hm0.out (Hr0.out.on HB6.out)).mono ?_
  rintro e' w7 ⟨gX0, rfl, hgX0, hoX0, hb7⟩
  have hfX0 := FreshE.of_own hoX0 Hn0.out hgX0
  clear hoX0 hgX0
  have HA0_7 := hid (HA0_6.out.on hb7)
  have HB7 := hid (bfrom HB6.out hb7)
  have hs7 : w6.heap.size ≤ w7.heap.size := by have h := hb7.size; omega
  clear hxA0 hyA0 hzA0
  clear HA0_6 HB6 hb7
  have HX0_7 := hid hfX0
  have hq := fun g h => hfX0.own (g := g) h
  have QX0 := hid hq
  clear hfX0 hq
  have hxA0 := HA0_7.out.1
  have hyA0 := HA0_7.out.2
  have hzA0 := HA0_7.out.lt
  go_wp2_with fail
  refine (toInts_sees _ _ _ es1 _ Hn1.out Hm1.out (Hr1.out.on (bfrom HB7.out (on_alloc _ _)))).mono ?_
  rintro e' w8 ⟨gX1, rfl, hgX1, hoX1, hb8⟩
  have hfX1 := FreshI.of_own hoX1 Hn1.out hgX1
  clear hoX1 hgX1
  have HA0_8 := hid ((HA0_7.out.on (on_alloc _ _)).on hb8)
  have HX0_8 := hid ((HX0_7.out.on (on_alloc _ _)).on hb8)
  have HXB0_8 := hid ((Box.new w7 s0 (some ⟨gX0, 0, none⟩) n0 n0 31).on hb8)
  have HB8 := hid (bfrom (bfrom HB7.out (on_alloc _ _)) hb8)
  have hs8 : w7.heap.size + 1 ≤ w8.heap.size := by have h := hb8.size; simp only [World.size_alloc] at h; omega
  clear hxA0 hyA0 hzA0
  clear HA0_7 HX0_7 HB7 hb8
  have HX1_8 := hid hfX1
  have hq := fun g h => hfX1.own (g := g) h
  simp only [World.size_alloc] at hq
  have QX1 := hid hq
  clear hfX1 hq
  have hxA0 := HA0_8.out.1
  have hyA0 := HA0_8.out.2
  have hzA0 := HA0_8.out.lt
  have hxXB0 := HXB0_8.out.1
  have hyXB0 := HXB0_8.out.2
  have hzXB0 := HXB0_8.out.lt
  go_wp2_with fail
  refine (toInts_sees _ _ _ es2 _ Hn2.out Hm2.out (Hr2.out.on HB8.out)).mono ?_
  rintro e' w9 ⟨gX2, rfl, hgX2, hoX2, hb9⟩
  have hfX2 := FreshI.of_own hoX2 Hn2.out hgX2
  clear hoX2 hgX2
  have HA0_9 := hid (HA0_8.out.on hb9)
  have HX0_9 := hid (HX0_8.out.on hb9)
  have HXB0_9 := hid (HXB0_8.out.on hb9)
  have HX1_9 := hid (HX1_8.out.on hb9)
  have HB9 := hid (bfrom HB8.out hb9)
  have hs9 : w8.heap.size ≤ w9.heap.size := by have h := hb9.size; omega
  clear hxA0 hyA0 hzA0 hxXB0 hyXB0 hzXB0
  clear HA0_8 HX0_8 HXB0_8 HX1_8 HB8 hb9
  have HX2_9 := hid hfX2
  have hq := fun g h => hfX2.own (g := g) h
  have QX2 := hid hq
  clear hfX2 hq
  have hxA0 := HA0_9.out.1
  have hyA0 := HA0_9.out.2
  have hzA0 := HA0_9.out.lt
  have hxXB0 := HXB0_9.out.1
  have hyXB0 := HXB0_9.out.2
  have hzXB0 := HXB0_9.out.lt
  go_wp2_with fail
  refine (HI.out _ _ _ _ _ _ _ HX0_9.out.sees HX1_9.out.sees HX2_9.out.sees).mono ?_
  rintro e' w10 ⟨rfl, hb10⟩
  have HA0_10 := hid (HA0_9.out.on hb10)
  have HX0_10 := hid (HX0_9.out.on hb10)
  have HXB0_10 := hid (HXB0_9.out.on hb10)
  have HX1_10 := hid (HX1_9.out.on hb10)
  have HX2_10 := hid (HX2_9.out.on hb10)
  have HB10 := hid (bfrom HB9.out hb10)
  have hs10 : w9.heap.size ≤ w10.heap.size := by have h := hb10.size; omega
  clear hxA0 hyA0 hzA0 hxXB0 hyXB0 hzXB0
  clear HA0_9 HX0_9 HXB0_9 HX1_9 HX2_9 HB9 hb10
  have hxA0 := HA0_10.out.1
  have hyA0 := HA0_10.out.2
  have hzA0 := HA0_10.out.lt
  have hxXB0 := HXB0_10.out.1
  have hyXB0 := HXB0_10.out.2
  have hzXB0 := HXB0_10.out.lt
  go_upto_region 16 with fail
  go_cut [61] (fun u wx => u = .bool false ∧ Hid (Below w10.heap.size w10 wx))
  case first =>
    go_region_with (first
      | (go_at_call 16; refine (toGraph_any _ _ _ _ es0 _ Hn0.out Hm0.out ?_).mono ?_; (first | exact Hr0.out.on HB10.out | exact Hr0.out.on HB10.out.drew); rintro e' w11 ⟨gY0, rfl, hgY0, hoY0, hb11⟩; have HoY0 := hid hoY0; clear hoY0; have huXB0 := ((bcells hb11).1 _ _ hzXB0).trans hxXB0; have hvXB0 := ((bcells hb11).1 _ _ hzXB0).trans hyXB0)
      | (go_at_call 19; refine (eqGraph_self _ _ _ _ _ _ es0 _ Hn0.out hq0 ?_ ?_).mono ?_; (exact (HX0_10.out.drew.on hb11).sees); (exact HoY0.out.sees); rintro e' w12 ⟨rfl, hb12⟩))
    all_goals (go_wp2_with fail; go_meet; exact ⟨rfl, hid (bfrom (bfrom (Below.refl _ _).drew hb11) hb12)⟩)
  case rest =>
  obtain ⟨rfl, hcb⟩ := hcut
  obtain ⟨w13, rfl⟩ : ∃ w13, w13 = wc := ⟨_, rfl⟩
  have hb13 := hcb.out
  clear hcb
  have HA0_13 := hid (HA0_10.out.on hb13)
  have HX0_13 := hid (HX0_10.out.on hb13)
  have HXB0_13 := hid (HXB0_10.out.on hb13)
  have HX1_13 := hid (HX1_10.out.on hb13)
  have HX2_13 := hid (HX2_10.out.on hb13)
  have HB13 := hid (bfrom HB10.out hb13)
  have hs13 : w10.heap.size ≤ w13.heap.size := hb13.size
  clear hxA0 hyA0 hzA0 hxXB0 hyXB0 hzXB0
  clear HA0_10 HX0_10 HXB0_10 HX1_10 HX2_10 HB10 hb13
  have hxA0 := HA0_13.out.1
  have hyA0 := HA0_13.out.2
  have hzA0 := HA0_13.out.lt
  have hxXB0 := HXB0_13.out.1
  have hyXB0 := HXB0_13.out.2
  have hzXB0 := HXB0_13.out.lt
  go_wp2_with fail
  refine (toInts_sees _ _ _ es1 _ Hn1.out Hm1.out (Hr1.out.on HB13.out)).mono ?_
  rintro e' w14 ⟨gY1, rfl, hgY1, hoY1, hb14⟩
  have hfY1 := FreshI.of_own hoY1 Hn1.out hgY1
  clear hoY1 hgY1
  have HA0_14 := hid (HA0_13.out.on hb14)
  have HX0_14 := hid (HX0_13.out.on hb14)
  have HXB0_14 := hid (HXB0_13.out.on hb14)
  have HX1_14 := hid (HX1_13.out.on hb14)
  have HX2_14 := hid (HX2_13.out.on hb14)
  have HB14 := hid (bfrom HB13.out hb14)
  have hs14 : w13.heap.size ≤ w14.heap.size := by have h := hb14.size; omega
  clear hxA0 hyA0 hzA0 hxXB0 hyXB0 hzXB0
  clear HA0_13 HX0_13 HXB0_13 HX1_13 HX2_13 HB13 hb14
  have HY1_14 := hid hfY1
  have hq := fun g h => hfY1.own (g := g) h
  have QY1 := hid hq
  clear hfY1 hq
  have hxA0 := HA0_14.out.1
  have hyA0 := HA0_14.out.2
  have hzA0 := HA0_14.out.lt
  have hxXB0 := HXB0_14.out.1
  have hyXB0 := HXB0_14.out.2
  have hzXB0 := HXB0_14.out.lt
  go_wp2_with fail
  refine (eqInts_self _ _ _ _ _ es1 _ Hn1.out hq1 HX1_14.out.sees HY1_14.out.sees).mono ?_
  rintro e' w15 ⟨rfl, hb15⟩
  have HA0_15 := hid (HA0_14.out.on hb15)
  have HX0_15 := hid (HX0_14.out.on hb15)
  have HXB0_15 := hid (HXB0_14.out.on hb15)
  have HX1_15 := hid (HX1_14.out.on hb15)
  have HX2_15 := hid (HX2_14.out.on hb15)
  have HY1_15 := hid (HY1_14.out.on hb15)
  have HB15 := hid (bfrom HB14.out hb15)
  have hs15 : w14.heap.size ≤ w15.heap.size := by have h := hb15.size; omega
  clear hxA0 hyA0 hzA0 hxXB0 hyXB0 hzXB0
  clear HA0_14 HX0_14 HXB0_14 HX1_14 HX2_14 HY1_14 HB14 hb15
  clear HY1_15
  have hxA0 := HA0_15.out.1
  have hyA0 := HA0_15.out.2
  have hzA0 := HA0_15.out.lt
  have hxXB0 := HXB0_15.out.1
  have hyXB0 := HXB0_15.out.2
  have hzXB0 := HXB0_15.out.lt
  go_wp2_with fail
  refine (toInts_sees _ _ _ es2 _ Hn2.out Hm2.out (Hr2.out.on HB15.out)).mono ?_
  rintro e' w16 ⟨gY2, rfl, hgY2, hoY2, hb16⟩
  have hfY2 := FreshI.of_own hoY2 Hn2.out hgY2
  clear hoY2 hgY2
  have HA0_16 := hid (HA0_15.out.on hb16)
  have HX0_16 := hid (HX0_15.out.on hb16)
  have HXB0_16 := hid (HXB0_15.out.on hb16)
  have HX1_16 := hid (HX1_15.out.on hb16)
  have HX2_16 := hid (HX2_15.out.on hb16)
  have HB16 := hid (bfrom HB15.out hb16)
  have hs16 : w15.heap.size ≤ w16.heap.size := by have h := hb16.size; omega
  clear hxA0 hyA0 hzA0 hxXB0 hyXB0 hzXB0
  clear HA0_15 HX0_15 HXB0_15 HX1_15 HX2_15 HB15 hb16
  have HY2_16 := hid hfY2
  have hq := fun g h => hfY2.own (g := g) h
  have QY2 := hid hq
  clear hfY2 hq
  have hxA0 := HA0_16.out.1
  have hyA0 := HA0_16.out.2
  have hzA0 := HA0_16.out.lt
  have hxXB0 := HXB0_16.out.1
  have hyXB0 := HXB0_16.out.2
  have hzXB0 := HXB0_16.out.lt
  go_wp2_with fail
  refine (eqInts_self _ _ _ _ _ es2 _ Hn2.out hq2 HX2_16.out.sees HY2_16.out.sees).mono ?_
  rintro e' w17 ⟨rfl, hb17⟩
  have HA0_17 := hid (HA0_16.out.on hb17)
  have HX0_17 := hid (HX0_16.out.on hb17)
  have HXB0_17 := hid (HXB0_16.out.on hb17)
  have HX1_17 := hid (HX1_16.out.on hb17)
  have HX2_17 := hid (HX2_16.out.on hb17)
  have HY2_17 := hid (HY2_16.out.on hb17)
  have HB17 := hid (bfrom HB16.out hb17)
  have hs17 : w16.heap.size ≤ w17.heap.size := by have h := hb17.size; omega
  clear hxA0 hyA0 hzA0 hxXB0 hyXB0 hzXB0
  clear HA0_16 HX0_16 HXB0_16 HX1_16 HX2_16 HY2_16 HB16 hb17
  clear HY2_17
  go_wp2
  go_ret
  exact ⟨rfl, HB17.out⟩

theorem lawAreAlike_any (s0 : Int) (p0 : Option Addr) (n0 c0 : Nat) (es0 : List (Int × Int)) (p1 : Option Addr) (n1 c1 : Nat) (es1 : List Int) (p2 : Option Addr) (n2 c2 : Nat) (es2 : List Int) (w : World) (hn0 : es0.length = n0) (hl0 : n0 ≤ 9223372036854775807) (hr0 : SeesE w p0 es0) (hn1 : es1.length = n1) (hl1 : n1 ≤ 9223372036854775807) (hr1 : SeesI w p1 es1) (hn2 : es2.length = n2) (hl2 : n2 ≤ 9223372036854775807) (hr2 : SeesI w p2 es2) :
    Calls Try.prog 8 #[.agg #[.int .i64 s0, .slice p0 n0 c0], .slice p1 n1 c1, .slice p2 n2 c2] w fun e' w' => e' = .returned (.bool true) ∧ Below w.heap.size w w' := by
  rcases Nat.lt_or_ge 1048576 (n1) with h1 | h1
  · exact lawAreAlike_big1 s0 p0 n0 c0 p1 n1 c1 p2 n2 c2 w hl1 (by omega)
  rcases Nat.lt_or_ge 1048576 (n2) with h2 | h2
  · exact lawAreAlike_big2 s0 p0 n0 c0 p1 n1 c1 p2 n2 c2 w hl1 hl2 h1 (by omega)
  rcases Nat.lt_or_ge 1048576 (n0) with h0 | h0
  · exact lawAreAlike_big0 s0 p0 n0 c0 p1 n1 c1 p2 n2 c2 w hl1 hl2 hl0 h1 h2 (by omega)
  exact lawAreAlike_small s0 p0 n0 c0 es0 p1 n1 c1 es1 p2 n2 c2 es2 w hn0 (by omega) hr0 hn1 (by omega) hr1 hn2 (by omega) hr2

end Go.Proofs.Ytkcljjbjlhageab
