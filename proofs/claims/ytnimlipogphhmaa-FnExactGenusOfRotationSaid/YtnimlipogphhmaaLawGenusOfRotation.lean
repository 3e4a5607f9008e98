/- The law on GenusOfRotation, walked out of the contracts: it returns true, whatever lies in memory. -/
import Derived.Test.YtnimlipogphhmaaGenQ
import Derived.Test.YtnimlipogphhmaaLawsF
import Derived.Deep.RegionWith
import Derived.Deep.DeepCutAuto
namespace Go.Proofs.Ytnimlipogphhmaa
open Go.RowKit

set_option maxRecDepth 100000 in
set_option maxHeartbeats 8000000 in
theorem lawGenusOfRotation_big1 (s0 : Int) (p0 : Option Addr) (n0 c0 : Nat) (p1 : Option Addr) (n1 c1 : Nat) (w : World) (m1 : n1 ≤ 9223372036854775807) (b1 : 1048576 < n1) :
    Calls Try.prog 6 #[.agg #[.int .i64 s0, .slice p0 n0 c0], .slice p1 n1 c1] w fun e' w' => e' = .returned (.bool true) ∧ Below w.heap.size w w' := by
  go_enter Try.func6, Try.ntmps6
  go_wp2_with fail
  go_ret
  exact ⟨rfl, by go_grown⟩

set_option maxRecDepth 100000 in
set_option maxHeartbeats 8000000 in
theorem lawGenusOfRotation_big0 (s0 : Int) (p0 : Option Addr) (n0 c0 : Nat) (p1 : Option Addr) (n1 c1 : Nat) (w : World) (m1 : n1 ≤ 9223372036854775807) (m0 : n0 ≤ 9223372036854775807) (b1 : n1 ≤ 1048576) (bg : 1048576 < n0) :
    Calls Try.prog 6 #[.agg #[.int .i64 s0, .slice p0 n0 c0], .slice p1 n1 c1] w fun e' w' => e' = .returned (.bool true) ∧ Below w.heap.size w w' := by
  have BG := hid bg
  clear bg
  go_enter Try.func6, Try.ntmps6
  go_wp2_with fail
  refine (szGraph_any _ _ _ _ _ _ m0 (by omega) (by omega)).mono ?_
  rw [if_pos (by have := BG.out; omega)]
  rintro e' w2 ⟨rfl, hb2⟩
  have hB2 := bfrom (w := w) (by go_grown) hb2
  go_wp2
  go_ret
  exact ⟨rfl, hB2⟩

set_option maxRecDepth 100000 in
set_option maxHeartbeats 8000000 in
theorem lawGenusOfRotation_small (s0 : Int) (p0 : Option Addr) (n0 c0 : Nat) (es0 : List (Int × Int)) (p1 : Option Addr) (n1 c1 : Nat) (es1 : List Int) (w : World) (hn0 : es0.length = n0) (hm0 : n0 ≤ 1048576) (hr0 : SeesE w p0 es0) (hn1 : es1.length = n1) (hm1 : n1 ≤ 1048576) (hr1 : SeesI w p1 es1) :
    Calls Try.prog 6 #[.agg #[.int .i64 s0, .slice p0 n0 c0], .slice p1 n1 c1] w fun e' w' => e' = .returned (.bool true) ∧ Below w.heap.size w w' := by
  have hq0 : n0 ≤ 9223372036854775807 := by omega
  have hq1 : n1 ≤ 9223372036854775807 := by omega
  have hge0 : ¬ ((1048576 : Int) - n0 < 0) := by omega
  have Hn0 := hid hn0
  have Hm0 := hid hm0
  have Hr0 := hid hr0
  have Hn1 := hid hn1
  have Hm1 := hid hm1
  have Hr1 := hid hr1
  obtain ⟨r0, cd, hR⟩ : ∃ r0 cd, fGenusOfRotation s0 es0 es1 = (r0, cd) := ⟨_, _, rfl⟩
  have hne1 : (r0 != r0) = false := by simp
  have hne0 : (cd != cd) = false := by simp
  have hS := fun (q0 : Option Addr) (cc0 : Nat) (q1 : Option Addr) (cc1 : Nat) (ww : World) (hh0 : SeesE ww q0 es0) (hh1 : SeesI ww q1 es1) => sGenusOfRotation_any s0 q0 n0 cc0 es0 q1 n1 cc1 es1 ww hm0 hn0 hh0 hm1 hn1 hh1
  have hI := fun (q0 : Option Addr) (cc0 : Nat) (q1 : Option Addr) (cc1 : Nat) (ww : World) (hh0 : SeesE ww q0 es0) (hh1 : SeesI ww q1 es1) => iGenusOfRotation_any s0 q0 n0 cc0 es0 q1 n1 cc1 es1 ww hm0 hn0 hh0 hm1 hn1 hh1
  rw [hR] at hS hI
  dsimp only at hS hI
  have HS := hid hS
  have HI := hid hI
  have hbb1 : n1 ≤ 1048576 := hm1
  clear hn0 hm0 hr0 hn1 hm1 hr1 hR hS hI
  go_enter Try.func6, Try.ntmps6
  go_wp2_with fail
  have HA0_1 : Hid (Box (w.alloc (.cells #[.int .i64 s0, .slice p0 n0 c0] 24)) (w.heap.size) s0 p0 n0 c0) := hid (by have h := (Box.new w s0 p0 n0 c0 24); first | exact h | simpa only [World.size_alloc] using h)
  have HB1 : Hid (Below w.heap.size w (w.alloc (.cells #[.int .i64 s0, .slice p0 n0 c0] 24))) := hid (bfrom (Below.refl _ _) (on_alloc _ (.cells #[.int .i64 s0, .slice p0 n0 c0] 24)))
  refine (szGraph_any _ _ _ _ _ _ hq0 (by omega) (by omega)).mono ?_
  rw [if_neg (by omega)]
  rintro e' w2 ⟨rfl, hb2⟩
  have HA0_2 := hid (HA0_1.out.on hb2)
  have HB2 := hid (bfrom HB1.out hb2)
  have hs2 : w.heap.size + 1 ≤ w2.heap.size := by have h := hb2.size; simp only [World.size_alloc] at h; omega
  clear HA0_1 HB1 hb2
  have hxA0 := HA0_2.out.1
  have hyA0 := HA0_2.out.2
  have hzA0 := HA0_2.out.lt
  go_wp2_with fail
  refine (toGraph_any _ _ _ _ es0 _ Hn0.out Hm0.out (Hr0.out.on HB2.out)).mono ?_
  rintro e' w3 ⟨gT0, rfl, hgT0, hoT0, hb3⟩
  have hfT0 := FreshE.of_own hoT0 Hn0.out hgT0
  clear hoT0 hgT0
  have HA0_3 := hid (HA0_2.out.on hb3)
  have HB3 := hid (bfrom HB2.out hb3)
  have hs3 : w2.heap.size ≤ w3.heap.size := by have h := hb3.size; omega
  clear hxA0 hyA0 hzA0
  clear HA0_2 HB2 hb3
  have HT0_3 := hid hfT0
  have hq := fun g h => hfT0.own (g := g) h
  have QT0 := hid hq
  clear hfT0 hq
  have hxA0 := HA0_3.out.1
  have hyA0 := HA0_3.out.2
  have hzA0 := HA0_3.out.lt
  go_wp2_with fail
  refine (toInts_sees _ _ _ es1 _ Hn1.out Hm1.out (Hr1.out.on HB3.out)).mono ?_
  rintro e' w4 ⟨gT1, rfl, hgT1, hoT1, hb4⟩
  have hfT1 := FreshI.of_own hoT1 Hn1.out hgT1
  clear hoT1 hgT1
  have HA0_4 := hid (HA0_3.out.on hb4)
  have HT0_4 := hid (HT0_3.out.on hb4)
  have HB4 := hid (bfrom HB3.out hb4)
  have hs4 : w3.heap.size ≤ w4.heap.size := by have h := hb4.size; omega
  clear hxA0 hyA0 hzA0
  clear HA0_3 HT0_3 HB3 hb4
  have HT1_4 := hid hfT1
  have hq := fun g h => hfT1.own (g := g) h
  have QT1 := hid hq
  clear hfT1 hq
  have hxA0 := HA0_4.out.1
  have hyA0 := HA0_4.out.2
  have hzA0 := HA0_4.out.lt
  go_wp2_with fail
  refine (HS.out _ _ _ _ _ HT0_4.out.sees HT1_4.out.sees).mono ?_
  rintro e' w5 ⟨rfl, hb5⟩
  have HA0_5 := hid (HA0_4.out.on hb5)
  have HT0_5 := hid (HT0_4.out.on hb5)
  have HT1_5 := hid (HT1_4.out.on hb5)
  have HB5 := hid (bfrom HB4.out hb5)
  have hs5 : w4.heap.size ≤ w5.heap.size := by have h := hb5.size; omega
  clear hxA0 hyA0 hzA0
  clear HA0_4 HT0_4 HT1_4 HB4 hb5
  clear HT0_5
  clear HT1_5
  have hxA0 := HA0_5.out.1
  have hyA0 := HA0_5.out.2
  have hzA0 := HA0_5.out.lt
  go_wp2_with fail
  refine (toGraph_any _ _ _ _ es0 _ Hn0.out Hm0.out (Hr0.out.on HB5.out)).mono ?_
  rintro e' w6 ⟨gX0, rfl, hgX0, hoX0, hb6⟩
  have hfX0 := FreshE.of_own hoX0 Hn0.out hgX0
  clear hoX0 hgX0
  have HA0_6 := hid (HA0_5.out.on hb6)
  have HB6 := hid (bfrom HB5.out hb6)
  have hs6 : w5.heap.size ≤ w6.heap.size := by have h := hb6.size; omega
  clear hxA0 hyA0 hzA0
  clear HA0_5 HB5 hb6
  have HX0_6 := hid hfX0
  have hq := fun g h => hfX0.own (g := g) h
  have QX0 := hid hq
  clear hfX0 hq
  have hxA0 := HA0_6.out.1
  have hyA0 := HA0_6.out.2
  have hzA0 := HA0_6.out.lt
  go_wp2_with fail
  refine (toInts_sees _ _ _ es1 _ Hn1.out Hm1.out (Hr1.out.on (bfrom HB6.out (on_alloc _ _)))).mono ?_
  rintro e' w7 ⟨gX1, rfl, hgX1, hoX1, hb7⟩
  have hfX1 := FreshI.of_own hoX1 Hn1.out hgX1
  clear hoX1 hgX1
  have HA0_7 := hid ((HA0_6.out.on (on_alloc _ _)).on hb7)
  have HX0_7 := hid ((HX0_6.out.on (on_alloc _ _)).on hb7)
  have HXB0_7 := hid ((Box.new w6 s0 (some ⟨gX0, 0, none⟩) n0 n0 30).on hb7)
  have HB7 := hid (bfrom (bfrom HB6.out (on_alloc _ _)) hb7)
  have hs7 : w6.heap.size + 1 ≤ w7.heap.size := by have h := hb7.size; simp only [World.size_alloc] at h; omega
  clear hxA0 hyA0 hzA0
  clear HA0_6 HX0_6 HB6 hb7
  have HX1_7 := hid hfX1
  have hq := fun g h => hfX1.own (g := g) h
  simp only [World.size_alloc] at hq
  have QX1 := hid hq
  clear hfX1 hq
  have hxA0 := HA0_7.out.1
  have hyA0 := HA0_7.out.2
  have hzA0 := HA0_7.out.lt
  have hxXB0 := HXB0_7.out.1
  have hyXB0 := HXB0_7.out.2
  have hzXB0 := HXB0_7.out.lt
  go_wp2_with fail
  refine (HI.out _ _ _ _ _ HX0_7.out.sees HX1_7.out.sees).mono ?_
  rintro e' w8 ⟨rfl, hb8⟩
  have HA0_8 := hid (HA0_7.out.on hb8)
  have HX0_8 := hid (HX0_7.out.on hb8)
  have HXB0_8 := hid (HXB0_7.out.on hb8)
  have HX1_8 := hid (HX1_7.out.on hb8)
  have HB8 := hid (bfrom HB7.out hb8)
  have hs8 : w7.heap.size ≤ w8.heap.size := by have h := hb8.size; omega
  clear hxA0 hyA0 hzA0 hxXB0 hyXB0 hzXB0
  clear HA0_7 HX0_7 HXB0_7 HX1_7 HB7 hb8
  have hxA0 := HA0_8.out.1
  have hyA0 := HA0_8.out.2
  have hzA0 := HA0_8.out.lt
  have hxXB0 := HXB0_8.out.1
  have hyXB0 := HXB0_8.out.2
  have hzXB0 := HXB0_8.out.lt
  go_upto_region 13 with fail
  go_cut [50] (fun u wx => u = .bool false ∧ Hid (Below w8.heap.size w8 wx))
  case first =>
    go_region_with (first
      | (go_at_call 9; refine (toGraph_any _ _ _ _ es0 _ Hn0.out Hm0.out ?_).mono ?_; (first | exact Hr0.out.on HB8.out | exact Hr0.out.on HB8.out.drew); rintro e' w9 ⟨gY0, rfl, hgY0, hoY0, hb9⟩; have HoY0 := hid hoY0; clear hoY0; have huXB0 := ((bcells hb9).1 _ _ hzXB0).trans hxXB0; have hvXB0 := ((bcells hb9).1 _ _ hzXB0).trans hyXB0)
      | (go_at_call 11; refine (eqGraph_self _ _ _ _ _ _ es0 _ Hn0.out hq0 ?_ ?_).mono ?_; (exact (HX0_8.out.drew.on hb9).sees); (exact HoY0.out.sees); rintro e' w10 ⟨rfl, hb10⟩))
    all_goals (go_wp2_with fail; go_meet; exact ⟨rfl, hid (bfrom (bfrom (Below.refl _ _).drew hb9) hb10)⟩)
  case rest =>
  obtain ⟨rfl, hcb⟩ := hcut
  obtain ⟨w11, rfl⟩ : ∃ w11, w11 = wc := ⟨_, rfl⟩
  have hb11 := hcb.out
  clear hcb
  have HA0_11 := hid (HA0_8.out.on hb11)
  have HX0_11 := hid (HX0_8.out.on hb11)
  have HXB0_11 := hid (HXB0_8.out.on hb11)
  have HX1_11 := hid (HX1_8.out.on hb11)
  have HB11 := hid (bfrom HB8.out hb11)
  have hs11 : w8.heap.size ≤ w11.heap.size := hb11.size
  clear hxA0 hyA0 hzA0 hxXB0 hyXB0 hzXB0
  clear HA0_8 HX0_8 HXB0_8 HX1_8 HB8 hb11
  have hxA0 := HA0_11.out.1
  have hyA0 := HA0_11.out.2
  have hzA0 := HA0_11.out.lt
  have hxXB0 := HXB0_11.out.1
  have hyXB0 := HXB0_11.out.2
  have hzXB0 := HXB0_11.out.lt
  go_wp2_with fail
  refine (toInts_sees _ _ _ es1 _ Hn1.out Hm1.out (Hr1.out.on HB11.out)).mono ?_
  rintro e' w12 ⟨gY1, rfl, hgY1, hoY1, hb12⟩
  have hfY1 := FreshI.of_own hoY1 Hn1.out hgY1
  clear hoY1 hgY1
  have HA0_12 := hid (HA0_11.out.on hb12)
  have HX0_12 := hid (HX0_11.out.on hb12)
  have HXB0_12 := hid (HXB0_11.out.on hb12)
  have HX1_12 := hid (HX1_11.out.on hb12)
  have HB12 := hid (bfrom HB11.out hb12)
  have hs12 : w11.heap.size ≤ w12.heap.size := by have h := hb12.size; omega
  clear hxA0 hyA0 hzA0 hxXB0 hyXB0 hzXB0
  clear HA0_11 HX0_11 HXB0_11 HX1_11 HB11 hb12
  have HY1_12 := hid hfY1
  have hq := fun g h => hfY1.own (g := g) h
  have QY1 := hid hq
  clear hfY1 hq
  have hxA0 := HA0_12.out.1
  have hyA0 := HA0_12.out.2
  have hzA0 := HA0_12.out.lt
  have hxXB0 := HXB0_12.out.1
  have hyXB0 := HXB0_12.out.2
  have hzXB0 := HXB0_12.out.lt
  go_wp2_with fail
  refine (eqInts_self _ _ _ _ _ es1 _ Hn1.out hq1 HX1_12.out.sees HY1_12.out.sees).mono ?_
  rintro e' w13 ⟨rfl, hb13⟩
  have HA0_13 := hid (HA0_12.out.on hb13)
  have HX0_13 := hid (HX0_12.out.on hb13)
  have HXB0_13 := hid (HXB0_12.out.on hb13)
  have HX1_13 := hid (HX1_12.out.on hb13)
  have HY1_13 := hid (HY1_12.out.on hb13)
  have HB13 := hid (bfrom HB12.out hb13)
  have hs13 : w12.heap.size ≤ w13.heap.size := by have h := hb13.size; omega
  clear hxA0 hyA0 hzA0 hxXB0 hyXB0 hzXB0
  clear HA0_12 HX0_12 HXB0_12 HX1_12 HY1_12 HB12 hb13
  clear HY1_13
  go_wp2
  go_ret
  exact ⟨rfl, HB13.out⟩

theorem lawGenusOfRotation_any (s0 : Int) (p0 : Option Addr) (n0 c0 : Nat) (es0 : List (Int × Int)) (p1 : Option Addr) (n1 c1 : Nat) (es1 : List Int) (w : World) (hn0 : es0.length = n0) (hl0 : n0 ≤ 9223372036854775807) (hr0 : SeesE w p0 es0) (hn1 : es1.length = n1) (hl1 : n1 ≤ 9223372036854775807) (hr1 : SeesI w p1 es1) :
    Calls Try.prog 6 #[.agg #[.int .i64 s0, .slice p0 n0 c0], .slice p1 n1 c1] w fun e' w' => e' = .returned (.bool true) ∧ Below w.heap.size w w' := by
  rcases Nat.lt_or_ge 1048576 (n1) with h1 | h1
  · exact lawGenusOfRotation_big1 s0 p0 n0 c0 p1 n1 c1 w hl1 (by omega)
  rcases Nat.lt_or_ge 1048576 (n0) with h0 | h0
  · exact lawGenusOfRotation_big0 s0 p0 n0 c0 p1 n1 c1 w hl1 hl0 h1 (by omega)
  exact lawGenusOfRotation_small s0 p0 n0 c0 es0 p1 n1 c1 es1 w hn0 (by omega) hr0 hn1 (by omega) hr1

end Go.Proofs.Ytnimlipogphhmaa
