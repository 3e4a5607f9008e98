/- The law on LeadsTo, walked out of the contracts: it returns true, whatever lies in memory. -/
import Derived.Test.YtbimllpfbgjajaaLdM
import Derived.Test.YtbimllpfbgjajaaLdP
import Derived.Deep.RegionHeld3
import Derived.Test.YtbimllpfbgjajaaLawsF
import Derived.Deep.RegionWith
import Derived.Deep.DeepCutAuto
namespace Go.Proofs.Ytbimllpfbgjajaa
open Go.RowKit

set_option maxRecDepth 100000 in
set_option maxHeartbeats 8000000 in
theorem lawLeadsTo_big2 (s0 : Int) (p0 : Option Addr) (n0 c0 : Nat) (s1 : Int) (p1 : Option Addr) (n1 c1 : Nat) (p2 : Option Addr) (n2 c2 : Nat) (w : World) (m2 : n2 ≤ 9223372036854775807) (b2 : 1048576 < n2) :
    Calls Try.prog 7 #[.agg #[.int .i64 s0, .slice p0 n0 c0], .agg #[.int .i64 s1, .slice p1 n1 c1], .slice p2 n2 c2] w fun e' w' => e' = .returned (.bool true) ∧ Below w.heap.size w w' := by
  go_enter Try.func7, Try.ntmps7
  go_wp2_with fail
  go_ret
  exact ⟨rfl, by go_grown⟩

set_option maxRecDepth 100000 in
set_option maxHeartbeats 8000000 in
theorem lawLeadsTo_big0 (s0 : Int) (p0 : Option Addr) (n0 c0 : Nat) (s1 : Int) (p1 : Option Addr) (n1 c1 : Nat) (p2 : Option Addr) (n2 c2 : Nat) (w : World) (m2 : n2 ≤ 9223372036854775807) (m0 : n0 ≤ 9223372036854775807) (b2 : n2 ≤ 1048576) (bg : 1048576 < n0) :
    Calls Try.prog 7 #[.agg #[.int .i64 s0, .slice p0 n0 c0], .agg #[.int .i64 s1, .slice p1 n1 c1], .slice p2 n2 c2] w fun e' w' => e' = .returned (.bool true) ∧ Below w.heap.size w w' := by
  have BG := hid bg
  clear bg
  go_enter Try.func7, Try.ntmps7
  go_wp2_with fail
  refine (szGraph_any _ _ _ _ _ _ m0 (by omega) (by omega)).mono ?_
  rw [if_pos (by have := BG.out; omega)]
  rintro e' w2 ⟨rfl, hb2⟩
  have hB2 := bfrom (w := w) (by go_grown) hb2
  go_wp2
  go_ret
  exact ⟨rfl, hB2⟩

set_option maxRecDepth 100000 in
set_option maxHeartbeats 8000000 in
theorem lawLeadsTo_big1 (s0 : Int) (p0 : Option Addr) (n0 c0 : Nat) (s1 : Int) (p1 : Option Addr) (n1 c1 : Nat) (p2 : Option Addr) (n2 c2 : Nat) (w : World) (m2 : n2 ≤ 9223372036854775807) (m0 : n0 ≤ 9223372036854775807) (m1 : n1 ≤ 9223372036854775807) (b2 : n2 ≤ 1048576) (sm : n0 ≤ 1048576) (bg : 1048576 < n0 + n1) :
    Calls Try.prog 7 #[.agg #[.int .i64 s0, .slice p0 n0 c0], .agg #[.int .i64 s1, .slice p1 n1 c1], .slice p2 n2 c2] w fun e' w' => e' = .returned (.bool true) ∧ Below w.heap.size w w' := by
  have BG := hid bg
  clear bg
  have hge0 : ¬ ((1048576 : Int) - n0 < 0) := by omega
  go_enter Try.func7, Try.ntmps7
  go_wp2_with fail
  refine (szGraph_any _ _ _ _ _ _ m0 (by omega) (by omega)).mono ?_
  rw [if_neg (by omega)]
  rintro e' w2 ⟨rfl, hb2⟩
  have hB2 := bfrom (w := w) (by go_grown) hb2
  obtain ⟨hc2, hf2⟩ := bcells hb2
  have hz2 : w.heap.size + 2 ≤ w2.heap.size := by have h := hb2.size; simp at h; omega
  go_wp2_with fail
  refine (szGraph_any _ _ _ _ _ _ m1 (by omega) (by omega)).mono ?_
  rw [if_pos (by have := BG.out; omega)]
  rintro e' w3 ⟨rfl, hb3⟩
  have hB3 := bfrom hB2 hb3
  go_wp2
  go_ret
  exact ⟨rfl, hB3⟩

set_option maxRecDepth 100000 in
set_option maxHeartbeats 8000000 in
theorem lawLeadsTo_small (s0 : Int) (p0 : Option Addr) (n0 c0 : Nat) (es0 : List (Int × Int)) (s1 : Int) (p1 : Option Addr) (n1 c1 : Nat) (es1 : List (Int × Int)) (p2 : Option Addr) (n2 c2 : Nat) (es2 : List Int) (w : World) (hn0 : es0.length = n0) (hm0 : n0 ≤ 1048576) (hr0 : SeesE w p0 es0) (hn1 : es1.length = n1) (hm1 : n1 ≤ 1048576) (hr1 : SeesE w p1 es1) (hn2 : es2.length = n2) (hm2 : n2 ≤ 1048576) (hr2 : SeesI w p2 es2) (hsum : n0 + n1 ≤ 1048576) :
    Calls Try.prog 7 #[.agg #[.int .i64 s0, .slice p0 n0 c0], .agg #[.int .i64 s1, .slice p1 n1 c1], .slice p2 n2 c2] w fun e' w' => e' = .returned (.bool true) ∧ Below w.heap.size w w' := by
  have hq0 : n0 ≤ 9223372036854775807 := by omega
  have hq1 : n1 ≤ 9223372036854775807 := by omega
  have hq2 : n2 ≤ 9223372036854775807 := by omega
  have hge0 : ¬ ((1048576 : Int) - n0 < 0) := by omega
  have hge1 : ¬ ((1048576 : Int) - n0 - n1 < 0) := by omega
  have Hn0 := hid hn0
  have Hm0 := hid hm0
  have Hr0 := hid hr0
  have Hn1 := hid hn1
  have Hm1 := hid hm1
  have Hr1 := hid hr1
  have Hn2 := hid hn2
  have Hm2 := hid hm2
  have Hr2 := hid hr2
  obtain ⟨r0, cd, hR⟩ : ∃ r0 cd, fLeadsTo s0 es0 s1 es1 es2 = (r0, cd) := ⟨_, _, rfl⟩
  have hne1 : (r0 != r0) = false := by simp
  have hne0 : (cd != cd) = false := by simp
  have hS := fun (q0 : Option Addr) (cc0 : Nat) (q1 : Option Addr) (cc1 : Nat) (q2 : Option Addr) (cc2 : Nat) (ww : World) (hh0 : SeesE ww q0 es0) (hh1 : SeesE ww q1 es1) (hh2 : SeesI ww q2 es2) => sLeadsTo_any s0 q0 n0 cc0 es0 s1 q1 n1 cc1 es1 q2 n2 cc2 es2 ww hm0 hn0 hh0 hm1 hn1 hh1 hm2 hn2 hh2
  have hI := fun (q0 : Option Addr) (cc0 : Nat) (q1 : Option Addr) (cc1 : Nat) (q2 : Option Addr) (cc2 : Nat) (ww : World) (hh0 : SeesE ww q0 es0) (hh1 : SeesE ww q1 es1) (hh2 : SeesI ww q2 es2) => iLeadsTo_any s0 q0 n0 cc0 es0 s1 q1 n1 cc1 es1 q2 n2 cc2 es2 ww hm0 hn0 hh0 hm1 hn1 hh1 hm2 hn2 hh2
  rw [hR] at hS hI
  dsimp only at hS hI
  have HS := hid hS
  have HI := hid hI
  have hbb2 : n2 ≤ 1048576 := hm2
  clear hn0 hm0 hr0 hn1 hm1 hr1 hn2 hm2 hr2 hR hS hI hsum
  go_enter Try.func7, Try.ntmps7
  go_wp2_with fail
  have HA0_1 : Hid (Box ((w.alloc (.cells #[.int .i64 s0, .slice p0 n0 c0] 24)).alloc (.cells #[.int .i64 s1, .slice p1 n1 c1] 24)) (w.heap.size) s0 p0 n0 c0) := hid (by have h := ((Box.new w s0 p0 n0 c0 24).on (on_alloc _ (.cells #[.int .i64 s1, .slice p1 n1 c1] 24))); first | exact h | simpa only [World.size_alloc] using h)
  have HA1_1 : Hid (Box ((w.alloc (.cells #[.int .i64 s0, .slice p0 n0 c0] 24)).alloc (.cells #[.int .i64 s1, .slice p1 n1 c1] 24)) (w.heap.size + 1) s1 p1 n1 c1) := hid (by have h := (Box.new (w.alloc (.cells #[.int .i64 s0, .slice p0 n0 c0] 24)) s1 p1 n1 c1 24); first | exact h | simpa only [World.size_alloc] using h)
  have HB1 : Hid (Below w.heap.size w ((w.alloc (.cells #[.int .i64 s0, .slice p0 n0 c0] 24)).alloc (.cells #[.int .i64 s1, .slice p1 n1 c1] 24))) := hid (bfrom (bfrom (Below.refl _ _) (on_alloc _ (.cells #[.int .i64 s0, .slice p0 n0 c0] 24))) (on_alloc _ (.cells #[.int .i64 s1, .slice p1 n1 c1] 24)))
  refine (szGraph_any _ _ _ _ _ _ hq0 (by omega) (by omega)).mono ?_
  rw [if_neg (by omega)]
  rintro e' w2 ⟨rfl, hb2⟩
  have HA0_2 := hid (HA0_1.out.on hb2)
  have HA1_2 := hid (HA1_1.out.on hb2)
  have HB2 := hid (bfrom HB1.out hb2)
  have hs2 : w.heap.size + 1 + 1 ≤ w2.heap.size := by have h := hb2.size; simp only [World.size_alloc] at h; omega
  clear HA0_1 HA1_1 HB1 hb2
  have hxA0 := HA0_2.out.1
  have hyA0 := HA0_2.out.2
  have hzA0 := HA0_2.out.lt
  have hxA1 := HA1_2.out.1
  have hyA1 := HA1_2.out.2
  have hzA1 := HA1_2.out.lt
  go_wp2_with fail
  refine (szGraph_any _ _ _ _ _ _ hq1 (by omega) (by omega)).mono ?_
  rw [if_neg (by omega)]
  rintro e' w3 ⟨rfl, hb3⟩
  have HA0_3 := hid (HA0_2.out.on hb3)
  have HA1_3 := hid (HA1_2.out.on hb3)
  have HB3 := hid (bfrom HB2.out hb3)
  have hs3 : w2.heap.size ≤ w3.heap.size := by have h := hb3.size; omega
  clear hxA0 hyA0 hzA0 hxA1 hyA1 hzA1
  clear HA0_2 HA1_2 HB2 hb3
  have hxA0 := HA0_3.out.1
  have hyA0 := HA0_3.out.2
  have hzA0 := HA0_3.out.lt
  have hxA1 := HA1_3.out.1
  have hyA1 := HA1_3.out.2
  have hzA1 := HA1_3.out.lt
  have hBN := HB3.out
  go_upto_region 10 with fail
  go_cut [8, 9] (fun uu vv wx => uu = .bool r0 ∧ vv = .int .i64 cd ∧ Hid (Below w3.heap.size w3 wx))
  case first =>
    go_region_held3 (fun w' => (w'.cell? ⟨w.heap.size, 0, none⟩ = some (.int .i64 s0) ∧ w'.cell? ⟨w.heap.size, 1, none⟩ = some (.slice p0 n0 c0)) ∧ (w'.cell? ⟨w.heap.size + 1, 0, none⟩ = some (.int .i64 s1) ∧ w'.cell? ⟨w.heap.size + 1, 1, none⟩ = some (.slice p1 n1 c1)))
      (go_keep)
      (first
        | (go_at_call_of 14 (Value.agg #[.int .i64 s0, .slice p0 n0 c0]); refine (toGraph_any _ _ _ _ es0 _ Hn0.out Hm0.out ?_).mono ?_; (exact (Hr0.out.on hBN).on (by have := Below.refl w3.heap.size w3; go_grown)); rintro e' wx0 ⟨gx0, rfl, hgx0, hox0, hbx0⟩; have HFx0 := hid (FreshE.of_own hox0 Hn0.out hgx0); have hBx0 : Below w3.heap.size w3 wx0 := bfrom (by have := Below.refl w3.heap.size w3; go_grown) hbx0; obtain ⟨hc0x0, hd0x0⟩ := HA0_3.out.on hBx0; obtain ⟨hc0x1, hd0x1⟩ := HA1_3.out.on hBx0)
        | (go_at_call_of 14 (Value.agg #[.int .i64 s1, .slice p1 n1 c1]); refine (toGraph_any _ _ _ _ es1 _ Hn1.out Hm1.out ?_).mono ?_; (exact (Hr1.out.on hBN).on (bfrom hBx0 (by have := Below.refl wx0.heap.size wx0; go_grown))); rintro e' wx1 ⟨gx1, rfl, hgx1, hox1, hbx1⟩; have HFx1 := hid (FreshE.of_own hox1 Hn1.out hgx1); have hBx1 : Below w3.heap.size w3 wx1 := bfrom (bfrom hBx0 (by have := Below.refl wx0.heap.size wx0; go_grown)) hbx1; obtain ⟨hc1x0, hd1x0⟩ := HA0_3.out.on hBx1; obtain ⟨hc1x1, hd1x1⟩ := HA1_3.out.on hBx1)
        | (go_at_call_of 29 (Value.slice p2 n2 c2); refine (toInts_sees _ _ _ es2 _ Hn2.out Hm2.out ?_).mono ?_; (exact (Hr2.out.on hBN).on (bfrom hBx1 (by have := Below.refl wx1.heap.size wx1; go_grown))); rintro e' wx2 ⟨gx2, rfl, hgx2, hox2, hbx2⟩; have HFx2 := hid (FreshI.of_own hox2 Hn2.out hgx2); have hBx2 : Below w3.heap.size w3 wx2 := bfrom (bfrom hBx1 (by have := Below.refl wx1.heap.size wx1; go_grown)) hbx2; obtain ⟨hc2x0, hd2x0⟩ := HA0_3.out.on hBx2; obtain ⟨hc2x1, hd2x1⟩ := HA1_3.out.on hBx2)
        | (go_at_call 28; refine (HS.out _ _ _ _ _ _ _  (HFx0.out.on (bfrom (bfrom (bfrom (by have := Below.refl wx0.heap.size wx0; go_grown) hbx1) (bfrom (by have := Below.refl wx1.heap.size wx1; go_grown) hbx2)) (by have := Below.refl wx2.heap.size wx2; go_grown))).sees (HFx1.out.on (bfrom (bfrom (by have := Below.refl wx1.heap.size wx1; go_grown) hbx2) (by have := Below.refl wx2.heap.size wx2; go_grown))).sees (HFx2.out.on (by have := Below.refl wx2.heap.size wx2; go_grown)).sees).mono ?_; rintro e' wy ⟨rfl, hby⟩; have hBy : Below w3.heap.size w3 wy := bfrom (bfrom hBx2 (by have := Below.refl wx2.heap.size wx2; go_grown)) hby; obtain ⟨hcy0, hdy0⟩ := HA0_3.out.on hBy; obtain ⟨hcy1, hdy1⟩ := HA1_3.out.on hBy))
    all_goals
      go_wp2_with fail
      go_meet
      exact ⟨rfl, rfl, hid (by first | exact hBy | exact hBy.drew | exact bdn.mpr hBy)⟩
  case rest =>
  obtain ⟨rfl, rfl, hcb⟩ := hcut
  obtain ⟨w4, rfl⟩ : ∃ w4, w4 = wc := ⟨_, rfl⟩
  have hb4 := hcb.out
  clear hcb hBN
  have HA0_4 := hid (HA0_3.out.on hb4)
  have HA1_4 := hid (HA1_3.out.on hb4)
  have HB4 := hid (bfrom HB3.out hb4)
  have hs4 : w3.heap.size ≤ w4.heap.size := by have h := hb4.size; omega
  clear hxA0 hyA0 hzA0 hxA1 hyA1 hzA1
  clear HA0_3 HA1_3 HB3 hb4
  have hxA0 := HA0_4.out.1
  have hyA0 := HA0_4.out.2
  have hzA0 := HA0_4.out.lt
  have hxA1 := HA1_4.out.1
  have hyA1 := HA1_4.out.2
  have hzA1 := HA1_4.out.lt
  go_wp2_with fail
  refine (toGraph_any _ _ _ _ es0 _ Hn0.out Hm0.out (Hr0.out.on HB4.out)).mono ?_
  rintro e' w5 ⟨gX0, rfl, hgX0, hoX0, hb5⟩
  have hfX0 := FreshE.of_own hoX0 Hn0.out hgX0
  clear hoX0 hgX0
  have HA0_5 := hid (HA0_4.out.on hb5)
  have HA1_5 := hid (HA1_4.out.on hb5)
  have HB5 := hid (bfrom HB4.out hb5)
  have hs5 : w4.heap.size ≤ w5.heap.size := by have h := hb5.size; omega
  clear hxA0 hyA0 hzA0 hxA1 hyA1 hzA1
  clear HA0_4 HA1_4 HB4 hb5
  have HX0_5 := hid hfX0
  have hq := fun g h => hfX0.own (g := g) h
  have QX0 := hid hq
  clear hfX0 hq
  have hxA0 := HA0_5.out.1
  have hyA0 := HA0_5.out.2
  have hzA0 := HA0_5.out.lt
  have hxA1 := HA1_5.out.1
  have hyA1 := HA1_5.out.2
  have hzA1 := HA1_5.out.lt
  go_wp2_with fail
  refine (toGraph_any _ _ _ _ es1 _ Hn1.out Hm1.out (Hr1.out.on (bfrom HB5.out (on_alloc _ _)))).mono ?_
  rintro e' w6 ⟨gX1, rfl, hgX1, hoX1, hb6⟩
  have hfX1 := FreshE.of_own hoX1 Hn1.out hgX1
  clear hoX1 hgX1
  have HA0_6 := hid ((HA0_5.out.on (on_alloc _ _)).on hb6)
  have HA1_6 := hid ((HA1_5.out.on (on_alloc _ _)).on hb6)
  have HX0_6 := hid ((HX0_5.out.on (on_alloc _ _)).on hb6)
  have HXB0_6 := hid ((Box.new w5 s0 (some ⟨gX0, 0, none⟩) n0 n0 30).on hb6)
  have HB6 := hid (bfrom (bfrom HB5.out (on_alloc _ _)) hb6)
  have hs6 : w5.heap.size + 1 ≤ w6.heap.size := by have h := hb6.size; simp only [World.size_alloc] at h; omega
  clear hxA0 hyA0 hzA0 hxA1 hyA1 hzA1
  clear HA0_5 HA1_5 HX0_5 HB5 hb6
  have HX1_6 := hid hfX1
  have hq := fun g h => hfX1.own (g := g) h
  simp only [World.size_alloc] at hq
  have QX1 := hid hq
  clear hfX1 hq
  have hxA0 := HA0_6.out.1
  have hyA0 := HA0_6.out.2
  have hzA0 := HA0_6.out.lt
  have hxA1 := HA1_6.out.1
  have hyA1 := HA1_6.out.2
  have hzA1 := HA1_6.out.lt
  have hxXB0 := HXB0_6.out.1
  have hyXB0 := HXB0_6.out.2
  have hzXB0 := HXB0_6.out.lt
  go_wp2_with fail
  refine (toInts_sees _ _ _ es2 _ Hn2.out Hm2.out (Hr2.out.on (bfrom HB6.out (on_alloc _ _)))).mono ?_
  rintro e' w7 ⟨gX2, rfl, hgX2, hoX2, hb7⟩
  have hfX2 := FreshI.of_own hoX2 Hn2.out hgX2
  clear hoX2 hgX2
  have HA0_7 := hid ((HA0_6.out.on (on_alloc _ _)).on hb7)
  have HA1_7 := hid ((HA1_6.out.on (on_alloc _ _)).on hb7)
  have HX0_7 := hid ((HX0_6.out.on (on_alloc _ _)).on hb7)
  have HXB0_7 := hid ((HXB0_6.out.on (on_alloc _ _)).on hb7)
  have HX1_7 := hid ((HX1_6.out.on (on_alloc _ _)).on hb7)
  have HXB1_7 := hid ((Box.new w6 s1 (some ⟨gX1, 0, none⟩) n1 n1 30).on hb7)
  have HB7 := hid (bfrom (bfrom HB6.out (on_alloc _ _)) hb7)
  have hs7 : w6.heap.size + 1 ≤ w7.heap.size := by have h := hb7.size; simp only [World.size_alloc] at h; omega
  clear hxA0 hyA0 hzA0 hxA1 hyA1 hzA1 hxXB0 hyXB0 hzXB0
  clear HA0_6 HA1_6 HX0_6 HXB0_6 HX1_6 HB6 hb7
  have HX2_7 := hid hfX2
  have hq := fun g h => hfX2.own (g := g) h
  simp only [World.size_alloc] at hq
  have QX2 := hid hq
  clear hfX2 hq
  have hxA0 := HA0_7.out.1
  have hyA0 := HA0_7.out.2
  have hzA0 := HA0_7.out.lt
  have hxA1 := HA1_7.out.1
  have hyA1 := HA1_7.out.2
  have hzA1 := HA1_7.out.lt
  have hxXB0 := HXB0_7.out.1
  have hyXB0 := HXB0_7.out.2
  have hzXB0 := HXB0_7.out.lt
  have hxXB1 := HXB1_7.out.1
  have hyXB1 := HXB1_7.out.2
  have hzXB1 := HXB1_7.out.lt
  go_wp2_with fail
  refine (HI.out _ _ _ _ _ _ _ HX0_7.out.sees HX1_7.out.sees HX2_7.out.sees).mono ?_
  rintro e' w8 ⟨rfl, hb8⟩
  have HA0_8 := hid (HA0_7.out.on hb8)
  have HA1_8 := hid (HA1_7.out.on hb8)
  have HX0_8 := hid (HX0_7.out.on hb8)
  have HXB0_8 := hid (HXB0_7.out.on hb8)
  have HX1_8 := hid (HX1_7.out.on hb8)
  have HXB1_8 := hid (HXB1_7.out.on hb8)
  have HX2_8 := hid (HX2_7.out.on hb8)
  have HB8 := hid (bfrom HB7.out hb8)
  have hs8 : w7.heap.size ≤ w8.heap.size := by have h := hb8.size; omega
  clear hxA0 hyA0 hzA0 hxA1 hyA1 hzA1 hxXB0 hyXB0 hzXB0 hxXB1 hyXB1 hzXB1
  clear HA0_7 HA1_7 HX0_7 HXB0_7 HX1_7 HXB1_7 HX2_7 HB7 hb8
  have hxA0 := HA0_8.out.1
  have hyA0 := HA0_8.out.2
  have hzA0 := HA0_8.out.lt
  have hxA1 := HA1_8.out.1
  have hyA1 := HA1_8.out.2
  have hzA1 := HA1_8.out.lt
  have hxXB0 := HXB0_8.out.1
  have hyXB0 := HXB0_8.out.2
  have hzXB0 := HXB0_8.out.lt
  have hxXB1 := HXB1_8.out.1
  have hyXB1 := HXB1_8.out.2
  have hzXB1 := HXB1_8.out.lt
  go_upto_region 17 with fail
  go_cut [63] (fun u wx => u = .bool false ∧ Hid (Below w8.heap.size w8 wx))
  case first =>
    go_region_with (first
      | (go_at_call 14; refine (toGraph_any _ _ _ _ es0 _ Hn0.out Hm0.out ?_).mono ?_; (first | exact Hr0.out.on HB8.out | exact Hr0.out.on HB8.out.drew); rintro e' w9 ⟨gY0, rfl, hgY0, hoY0, hb9⟩; have HoY0 := hid hoY0; clear hoY0; have huXB0 := ((bcells hb9).1 _ _ hzXB0).trans hxXB0; have hvXB0 := ((bcells hb9).1 _ _ hzXB0).trans hyXB0)
      | (go_at_call 16; refine (eqGraph_self _ _ _ _ _ _ es0 _ Hn0.out hq0 ?_ ?_).mono ?_; (exact (HX0_8.out.drew.on hb9).sees); (exact HoY0.out.sees); rintro e' w10 ⟨rfl, hb10⟩))
    all_goals (go_wp2_with fail; go_meet; exact ⟨rfl, hid (bfrom (bfrom (Below.refl _ _).drew hb9) hb10)⟩)
  case rest =>
  obtain ⟨rfl, hcb⟩ := hcut
  obtain ⟨w11, rfl⟩ : ∃ w11, w11 = wc := ⟨_, rfl⟩
  have hb11 := hcb.out
  clear hcb
  have HA0_11 := hid (HA0_8.out.on hb11)
  have HA1_11 := hid (HA1_8.out.on hb11)
  have HX0_11 := hid (HX0_8.out.on hb11)
  have HXB0_11 := hid (HXB0_8.out.on hb11)
  have HX1_11 := hid (HX1_8.out.on hb11)
  have HXB1_11 := hid (HXB1_8.out.on hb11)
  have HX2_11 := hid (HX2_8.out.on hb11)
  have HB11 := hid (bfrom HB8.out hb11)
  have hs11 : w8.heap.size ≤ w11.heap.size := hb11.size
  clear hxA0 hyA0 hzA0 hxA1 hyA1 hzA1 hxXB0 hyXB0 hzXB0 hxXB1 hyXB1 hzXB1
  clear HA0_8 HA1_8 HX0_8 HXB0_8 HX1_8 HXB1_8 HX2_8 HB8 hb11
  have hxA0 := HA0_11.out.1
  have hyA0 := HA0_11.out.2
  have hzA0 := HA0_11.out.lt
  have hxA1 := HA1_11.out.1
  have hyA1 := HA1_11.out.2
  have hzA1 := HA1_11.out.lt
  have hxXB0 := HXB0_11.out.1
  have hyXB0 := HXB0_11.out.2
  have hzXB0 := HXB0_11.out.lt
  have hxXB1 := HXB1_11.out.1
  have hyXB1 := HXB1_11.out.2
  have hzXB1 := HXB1_11.out.lt
  go_upto_region 19 with fail
  go_cut [68] (fun u wx => u = .bool false ∧ Hid (Below w11.heap.size w11 wx))
  case first =>
    go_region_with (first
      | (go_at_call 14; refine (toGraph_any _ _ _ _ es1 _ Hn1.out Hm1.out ?_).mono ?_; (first | exact Hr1.out.on HB11.out | exact Hr1.out.on HB11.out.drew); rintro e' w12 ⟨gY1, rfl, hgY1, hoY1, hb12⟩; have HoY1 := hid hoY1; clear hoY1; have huXB1 := ((bcells hb12).1 _ _ hzXB1).trans hxXB1; have hvXB1 := ((bcells hb12).1 _ _ hzXB1).trans hyXB1)
      | (go_at_call 16; refine (eqGraph_self _ _ _ _ _ _ es1 _ Hn1.out hq1 ?_ ?_).mono ?_; (exact (HX1_11.out.drew.on hb12).sees); (exact HoY1.out.sees); rintro e' w13 ⟨rfl, hb13⟩))
    all_goals (go_wp2_with fail; go_meet; exact ⟨rfl, hid (bfrom (bfrom (Below.refl _ _).drew hb12) hb13)⟩)
  case rest =>
  obtain ⟨rfl, hcb⟩ := hcut
  obtain ⟨w14, rfl⟩ : ∃ w14, w14 = wc := ⟨_, rfl⟩
  have hb14 := hcb.out
  clear hcb
  have HA0_14 := hid (HA0_11.out.on hb14)
  have HA1_14 := hid (HA1_11.out.on hb14)
  have HX0_14 := hid (HX0_11.out.on hb14)
  have HXB0_14 := hid (HXB0_11.out.on hb14)
  have HX1_14 := hid (HX1_11.out.on hb14)
  have HXB1_14 := hid (HXB1_11.out.on hb14)
  have HX2_14 := hid (HX2_11.out.on hb14)
  have HB14 := hid (bfrom HB11.out hb14)
  have hs14 : w11.heap.size ≤ w14.heap.size := hb14.size
  clear hxA0 hyA0 hzA0 hxA1 hyA1 hzA1 hxXB0 hyXB0 hzXB0 hxXB1 hyXB1 hzXB1
  clear HA0_11 HA1_11 HX0_11 HXB0_11 HX1_11 HXB1_11 HX2_11 HB11 hb14
  have hxA0 := HA0_14.out.1
  have hyA0 := HA0_14.out.2
  have hzA0 := HA0_14.out.lt
  have hxA1 := HA1_14.out.1
  have hyA1 := HA1_14.out.2
  have hzA1 := HA1_14.out.lt
  have hxXB0 := HXB0_14.out.1
  have hyXB0 := HXB0_14.out.2
  have hzXB0 := HXB0_14.out.lt
  have hxXB1 := HXB1_14.out.1
  have hyXB1 := HXB1_14.out.2
  have hzXB1 := HXB1_14.out.lt
  go_wp2_with fail
  refine (toInts_sees _ _ _ es2 _ Hn2.out Hm2.out (Hr2.out.on HB14.out)).mono ?_
  rintro e' w15 ⟨gY2, rfl, hgY2, hoY2, hb15⟩
  have hfY2 := FreshI.of_own hoY2 Hn2.out hgY2
  clear hoY2 hgY2
  have HA0_15 := hid (HA0_14.out.on hb15)
  have HA1_15 := hid (HA1_14.out.on hb15)
  have HX0_15 := hid (HX0_14.out.on hb15)
  have HXB0_15 := hid (HXB0_14.out.on hb15)
  have HX1_15 := hid (HX1_14.out.on hb15)
  have HXB1_15 := hid (HXB1_14.out.on hb15)
  have HX2_15 := hid (HX2_14.out.on hb15)
  have HB15 := hid (bfrom HB14.out hb15)
  have hs15 : w14.heap.size ≤ w15.heap.size := by have h := hb15.size; omega
  clear hxA0 hyA0 hzA0 hxA1 hyA1 hzA1 hxXB0 hyXB0 hzXB0 hxXB1 hyXB1 hzXB1
  clear HA0_14 HA1_14 HX0_14 HXB0_14 HX1_14 HXB1_14 HX2_14 HB14 hb15
  have HY2_15 := hid hfY2
  have hq := fun g h => hfY2.own (g := g) h
  have QY2 := hid hq
  clear hfY2 hq
  have hxA0 := HA0_15.out.1
  have hyA0 := HA0_15.out.2
  have hzA0 := HA0_15.out.lt
  have hxA1 := HA1_15.out.1
  have hyA1 := HA1_15.out.2
  have hzA1 := HA1_15.out.lt
  have hxXB0 := HXB0_15.out.1
  have hyXB0 := HXB0_15.out.2
  have hzXB0 := HXB0_15.out.lt
  have hxXB1 := HXB1_15.out.1
  have hyXB1 := HXB1_15.out.2
  have hzXB1 := HXB1_15.out.lt
  go_wp2_with fail
  refine (eqInts_self _ _ _ _ _ es2 _ Hn2.out hq2 HX2_15.out.sees HY2_15.out.sees).mono ?_
  rintro e' w16 ⟨rfl, hb16⟩
  have HA0_16 := hid (HA0_15.out.on hb16)
  have HA1_16 := hid (HA1_15.out.on hb16)
  have HX0_16 := hid (HX0_15.out.on hb16)
  have HXB0_16 := hid (HXB0_15.out.on hb16)
  have HX1_16 := hid (HX1_15.out.on hb16)
  have HXB1_16 := hid (HXB1_15.out.on hb16)
  have HX2_16 := hid (HX2_15.out.on hb16)
  have HY2_16 := hid (HY2_15.out.on hb16)
  have HB16 := hid (bfrom HB15.out hb16)
  have hs16 : w15.heap.size ≤ w16.heap.size := by have h := hb16.size; omega
  clear hxA0 hyA0 hzA0 hxA1 hyA1 hzA1 hxXB0 hyXB0 hzXB0 hxXB1 hyXB1 hzXB1
  clear HA0_15 HA1_15 HX0_15 HXB0_15 HX1_15 HXB1_15 HX2_15 HY2_15 HB15 hb16
  clear HY2_16
  go_wp2
  go_ret
  exact ⟨rfl, HB16.out⟩

theorem lawLeadsTo_any (s0 : Int) (p0 : Option Addr) (n0 c0 : Nat) (es0 : List (Int × Int)) (s1 : Int) (p1 : Option Addr) (n1 c1 : Nat) (es1 : List (Int × Int)) (p2 : Option Addr) (n2 c2 : Nat) (es2 : List Int) (w : World) (hn0 : es0.length = n0) (hl0 : n0 ≤ 9223372036854775807) (hr0 : SeesE w p0 es0) (hn1 : es1.length = n1) (hl1 : n1 ≤ 9223372036854775807) (hr1 : SeesE w p1 es1) (hn2 : es2.length = n2) (hl2 : n2 ≤ 9223372036854775807) (hr2 : SeesI w p2 es2) :
    Calls Try.prog 7 #[.agg #[.int .i64 s0, .slice p0 n0 c0], .agg #[.int .i64 s1, .slice p1 n1 c1], .slice p2 n2 c2] w fun e' w' => e' = .returned (.bool true) ∧ Below w.heap.size w w' := by
  rcases Nat.lt_or_ge 1048576 (n2) with h2 | h2
  · exact lawLeadsTo_big2 s0 p0 n0 c0 s1 p1 n1 c1 p2 n2 c2 w hl2 (by omega)
  rcases Nat.lt_or_ge 1048576 (n0) with h0 | h0
  · exact lawLeadsTo_big0 s0 p0 n0 c0 s1 p1 n1 c1 p2 n2 c2 w hl2 hl0 h2 (by omega)
  rcases Nat.lt_or_ge 1048576 (n0 + n1) with h1 | h1
  · exact lawLeadsTo_big1 s0 p0 n0 c0 s1 p1 n1 c1 p2 n2 c2 w hl2 hl0 hl1 h2 h0 (by omega)
  exact lawLeadsTo_small s0 p0 n0 c0 es0 s1 p1 n1 c1 es1 p2 n2 c2 es2 w hn0 (by omega) hr0 hn1 (by omega) hr1 hn2 (by omega) hr2 h1

end Go.Proofs.Ytbimllpfbgjajaa
