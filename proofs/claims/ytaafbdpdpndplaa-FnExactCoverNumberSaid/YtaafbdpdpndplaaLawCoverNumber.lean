/- The law on CoverNumber, walked out of the contracts: it returns true, whatever lies in memory. -/
import Derived.Test.YtaafbdpdpndplaaCvnT
import Derived.Test.YtaafbdpdpndplaaLawsF
import Derived.Deep.RegionWith
import Derived.Deep.DeepCutAuto
namespace Go.Proofs.Ytaafbdpdpndplaa
open Go.RowKit

set_option maxRecDepth 100000 in
set_option maxHeartbeats 8000000 in
theorem lawCoverNumber_big0 (s0 : Int) (p0 : Option Addr) (n0 c0 : Nat) (w : World) (m0 : n0 ≤ 9223372036854775807) (bg : 1048576 < n0) :
    Calls Try.prog 3 #[.agg #[.int .i64 s0, .slice p0 n0 c0]] w fun e' w' => e' = .returned (.bool true) ∧ Below w.heap.size w w' := by
  have BG := hid bg
  clear bg
  go_enter Try.func3, Try.ntmps3
  go_wp2_with fail
  refine (szGraph_any _ _ _ _ _ _ m0 (by omega) (by omega)).mono ?_
  rw [if_pos (by have := BG.out; omega)]
  rintro e' w2 ⟨rfl, hb2⟩
  have hB2 := bfrom (w := w) (by go_grown) hb2
  go_wp2
  go_ret
  exact ⟨rfl, hB2⟩

set_option maxRecDepth 100000 in
set_option maxHeartbeats 8000000 in
theorem lawCoverNumber_small (s0 : Int) (p0 : Option Addr) (n0 c0 : Nat) (es0 : List (Int × Int)) (w : World) (hn0 : es0.length = n0) (hm0 : n0 ≤ 1048576) (hr0 : SeesE w p0 es0) :
    Calls Try.prog 3 #[.agg #[.int .i64 s0, .slice p0 n0 c0]] w fun e' w' => e' = .returned (.bool true) ∧ Below w.heap.size w w' := by
  have hq0 : n0 ≤ 9223372036854775807 := by omega
  have hge0 : ¬ ((1048576 : Int) - n0 < 0) := by omega
  have Hn0 := hid hn0
  have Hm0 := hid hm0
  have Hr0 := hid hr0
  obtain ⟨r0, cd, hR⟩ : ∃ r0 cd, fCoverNumber s0 es0 = (r0, cd) := ⟨_, _, rfl⟩
  have hne1 : (r0 != r0) = false := by simp
  have hne0 : (cd != cd) = false := by simp
  have hS := fun (q0 : Option Addr) (cc0 : Nat) (ww : World) (hh0 : SeesE ww q0 es0) => sCoverNumber_any s0 q0 n0 cc0 es0 ww hm0 hn0 hh0
  have hI := fun (q0 : Option Addr) (cc0 : Nat) (ww : World) (hh0 : SeesE ww q0 es0) => iCoverNumber_any s0 q0 n0 cc0 es0 ww hm0 hn0 hh0
  rw [hR] at hS hI
  dsimp only at hS hI
  have HS := hid hS
  have HI := hid hI
  clear hn0 hm0 hr0 hR hS hI
  go_enter Try.func3, Try.ntmps3
  go_wp2_with fail
  have HA0_1 : Hid (Box (w.alloc (.cells #[.int .i64 s0, .slice p0 n0 c0] 24)) (w.heap.size) s0 p0 n0 c0) := hid (by have h := (Box.new w s0 p0 n0 c0 24); first | exact h | simpa only [World.size_alloc] using h)
  have HB1 : Hid (Below w.heap.size w (w.alloc (.cells #[.int .i64 s0, .slice p0 n0 c0] 24))) := hid (bfrom (Below.refl _ _) (on_alloc _ (.cells #[.int .i64 s0, .slice p0 n0 c0] 24)))
  refine (szGraph_any _ _ _ _ _ _ hq0 (by omega) (by omega)).mono ?_
  rw [if_neg (by omega)]
  rintro e' w2 ⟨rfl, hb2⟩
  have HA0_2 := hid (HA0_1.out.on hb2)
  have HB2 := hid (bfrom HB1.out hb2)
  have hs2 : w.heap.size + 1 ≤ w2.heap.size := by have h := hb2.size; simp only [World.size_alloc] at h; omega
  clear HA0_1 HB1 hb2
  have hxA0 := HA0_2.out.1
  have hyA0 := HA0_2.out.2
  have hzA0 := HA0_2.out.lt
  go_wp2_with fail
  refine (toGraph_any _ _ _ _ es0 _ Hn0.out Hm0.out (Hr0.out.on HB2.out)).mono ?_
  rintro e' w3 ⟨gT0, rfl, hgT0, hoT0, hb3⟩
  have hfT0 := FreshE.of_own hoT0 Hn0.out hgT0
  clear hoT0 hgT0
  have HA0_3 := hid (HA0_2.out.on hb3)
  have HB3 := hid (bfrom HB2.out hb3)
  have hs3 : w2.heap.size ≤ w3.heap.size := by have h := hb3.size; omega
  clear hxA0 hyA0 hzA0
  clear HA0_2 HB2 hb3
  have HT0_3 := hid hfT0
  have hq := fun g h => hfT0.own (g := g) h
  have QT0 := hid hq
  clear hfT0 hq
  have hxA0 := HA0_3.out.1
  have hyA0 := HA0_3.out.2
  have hzA0 := HA0_3.out.lt
  go_wp2_with fail
  refine (HS.out _ _ _ HT0_3.out.sees).mono ?_
  rintro e' w4 ⟨rfl, hb4⟩
  have HA0_4 := hid (HA0_3.out.on hb4)
  have HT0_4 := hid (HT0_3.out.on hb4)
  have HB4 := hid (bfrom HB3.out hb4)
  have hs4 : w3.heap.size ≤ w4.heap.size := by have h := hb4.size; omega
  clear hxA0 hyA0 hzA0
  clear HA0_3 HT0_3 HB3 hb4
  clear HT0_4
  have hxA0 := HA0_4.out.1
  have hyA0 := HA0_4.out.2
  have hzA0 := HA0_4.out.lt
  go_wp2_with fail
  refine (toGraph_any _ _ _ _ es0 _ Hn0.out Hm0.out (Hr0.out.on HB4.out)).mono ?_
  rintro e' w5 ⟨gX0, rfl, hgX0, hoX0, hb5⟩
  have hfX0 := FreshE.of_own hoX0 Hn0.out hgX0
  clear hoX0 hgX0
  have HA0_5 := hid (HA0_4.out.on hb5)
  have HB5 := hid (bfrom HB4.out hb5)
  have hs5 : w4.heap.size ≤ w5.heap.size := by have h := hb5.size; omega
  clear hxA0 hyA0 hzA0
  clear HA0_4 HB4 hb5
  have HX0_5 := hid hfX0
  have hq := fun g h => hfX0.own (g := g) h
  have QX0 := hid hq
  clear hfX0 hq
  have hxA0 := HA0_5.out.1
  have hyA0 := HA0_5.out.2
  have hzA0 := HA0_5.out.lt
  go_wp2_with fail
  refine (HI.out _ _ _ (HX0_5.out.on (on_alloc _ _)).sees).mono ?_
  rintro e' w6 ⟨rfl, hb6⟩
  have HA0_6 := hid ((HA0_5.out.on (on_alloc _ _)).on hb6)
  have HX0_6 := hid ((HX0_5.out.on (on_alloc _ _)).on hb6)
  have HXB0_6 := hid ((Box.new w5 s0 (some ⟨gX0, 0, none⟩) n0 n0 30).on hb6)
  have HB6 := hid (bfrom (bfrom HB5.out (on_alloc _ _)) hb6)
  have hs6 : w5.heap.size + 1 ≤ w6.heap.size := by have h := hb6.size; simp only [World.size_alloc] at h; omega
  clear hxA0 hyA0 hzA0
  clear HA0_5 HX0_5 HB5 hb6
  have hxA0 := HA0_6.out.1
  have hyA0 := HA0_6.out.2
  have hzA0 := HA0_6.out.lt
  have hxXB0 := HXB0_6.out.1
  have hyXB0 := HXB0_6.out.2
  have hzXB0 := HXB0_6.out.lt
  go_upto_region 10 with fail
  go_cut [39] (fun u wx => u = .bool false ∧ Hid (Below w6.heap.size w6 wx))
  case first =>
    go_region_with (first
      | (go_at_call 6; refine (toGraph_any _ _ _ _ es0 _ Hn0.out Hm0.out ?_).mono ?_; (first | exact Hr0.out.on HB6.out | exact Hr0.out.on HB6.out.drew); rintro e' w7 ⟨gY0, rfl, hgY0, hoY0, hb7⟩; have HoY0 := hid hoY0; clear hoY0; have huXB0 := ((bcells hb7).1 _ _ hzXB0).trans hxXB0; have hvXB0 := ((bcells hb7).1 _ _ hzXB0).trans hyXB0)
      | (go_at_call 8; refine (eqGraph_self _ _ _ _ _ _ es0 _ Hn0.out hq0 ?_ ?_).mono ?_; (exact (HX0_6.out.drew.on hb7).sees); (exact HoY0.out.sees); rintro e' w8 ⟨rfl, hb8⟩))
    all_goals (go_wp2_with fail; go_meet; exact ⟨rfl, hid (bfrom (bfrom (Below.refl _ _).drew hb7) hb8)⟩)
  case rest =>
  obtain ⟨rfl, hcb⟩ := hcut
  obtain ⟨w9, rfl⟩ : ∃ w9, w9 = wc := ⟨_, rfl⟩
  have hb9 := hcb.out
  clear hcb
  have HA0_9 := hid (HA0_6.out.on hb9)
  have HX0_9 := hid (HX0_6.out.on hb9)
  have HXB0_9 := hid (HXB0_6.out.on hb9)
  have HB9 := hid (bfrom HB6.out hb9)
  have hs9 : w6.heap.size ≤ w9.heap.size := hb9.size
  clear hxA0 hyA0 hzA0 hxXB0 hyXB0 hzXB0
  clear HA0_6 HX0_6 HXB0_6 HB6 hb9
  go_wp2
  go_ret
  exact ⟨rfl, HB9.out⟩

theorem lawCoverNumber_any (s0 : Int) (p0 : Option Addr) (n0 c0 : Nat) (es0 : List (Int × Int)) (w : World) (hn0 : es0.length = n0) (hl0 : n0 ≤ 9223372036854775807) (hr0 : SeesE w p0 es0) :
    Calls Try.prog 3 #[.agg #[.int .i64 s0, .slice p0 n0 c0]] w fun e' w' => e' = .returned (.bool true) ∧ Below w.heap.size w w' := by
  rcases Nat.lt_or_ge 1048576 (n0) with h0 | h0
  · exact lawCoverNumber_big0 s0 p0 n0 c0 w hl0 (by omega)
  exact lawCoverNumber_small s0 p0 n0 c0 es0 w hn0 (by omega) hr0

end Go.Proofs.Ytaafbdpdpndplaa
