/- The law on IsDesk, walked out of the contracts: it returns true, whatever lies in memory. -/
import Derived.Test.YtpadnliebimceaaDeskI
import Derived.Deep.RegionWith
import Derived.Deep.DeepCutAuto
namespace Go.Proofs.Ytpadnliebimceaa
open Go.RowKit

set_option maxRecDepth 100000 in
set_option maxHeartbeats 2000000 in
theorem lawIsDesk_big (s0 : Int) (p0 : Option Addr) (n0 c0 : Nat) (p1 : Option Addr) (n1 c1 : Nat) (p2 : Option Addr) (n2 c2 : Nat) (w : World) (m0 : n0 ≤ 9223372036854775807) (m1 : n1 ≤ 9223372036854775807) (m2 : n2 ≤ 9223372036854775807) (hf : (1048576 : Int) < (n0 : Int) + n1 + n2) :
    Calls Try.prog 4 #[.agg #[.int .i64 s0, .slice p0 n0 c0, .slice p1 n1 c1, .slice p2 n2 c2]] w fun e' w' => e' = .returned (.bool true) ∧ Below w.heap.size w w' := by
  have HF := hid hf
  clear hf
  go_enter Try.func4, Try.ntmps4
  go_wp2_with fail
  refine (szDesk_out _ _ _ _ _ _ _ _ _ _ _ _ (by omega) (by omega) m0 m1 m2 (by have h := HF.out; omega)).mono ?_
  rintro e' w2 ⟨rfl, hb2⟩
  have HB2 := hid (bfrom (w := w) (on_alloc _ _) hb2)
  clear hb2
  go_wp2_with fail
  go_ret
  exact ⟨rfl, HB2.out⟩

set_option maxRecDepth 100000 in
set_option maxHeartbeats 8000000 in
theorem lawIsDesk_small (s0 : Int) (p0 : Option Addr) (n0 c0 : Nat) (es : List (Int × Int)) (p1 : Option Addr) (n1 c1 : Nat) (xs : List Int) (p2 : Option Addr) (n2 c2 : Nat) (ys : List Int) (w : World) (hn0 : es.length = n0) (hr0 : SeesE w p0 es) (hn1 : xs.length = n1) (hr1 : SeesI w p1 xs) (hn2 : ys.length = n2) (hr2 : SeesI w p2 ys) (hf : (n0 : Int) + n1 + n2 ≤ 1048576) :
    Calls Try.prog 4 #[.agg #[.int .i64 s0, .slice p0 n0 c0, .slice p1 n1 c1, .slice p2 n2 c2]] w fun e' w' => e' = .returned (.bool true) ∧ Below w.heap.size w w' := by
  have hq0 : n0 ≤ 1048576 := by omega
  have hq1 : n1 ≤ 1048576 := by omega
  have hq2 : n2 ≤ 1048576 := by omega
  have hge : ¬ ((1048576 : Int) - n0 - n1 - n2 < 0) := by omega
  have HF := hid hf
  have Hn0 := hid hn0
  have Hr0 := hid hr0
  have Hn1 := hid hn1
  have Hr1 := hid hr1
  have Hn2 := hid hn2
  have Hr2 := hid hr2
  obtain ⟨r0, hR⟩ : ∃ r0, fIsDesk s0 es xs ys = r0 := ⟨_, rfl⟩
  have HR := hid hR
  have hne0 : (r0 != r0) = false := by simp
  clear hn0 hr0 hn1 hr1 hn2 hr2 hR hf
  go_enter Try.func4, Try.ntmps4
  go_wp2_with fail
  refine (szDesk_fit _ _ _ _ _ _ _ _ _ _ _ _ (by omega) (by have h := HF.out; omega)).mono ?_
  rintro e' w2 ⟨rfl, hb2⟩
  have HA2 : Hid (Box4 w2 w.heap.size s0 p0 n0 c0 p1 n1 c1 p2 n2 c2) := hid ((Box4.new _ _ _ _ _ _ _ _ _ _ _ _).on hb2)
  have HB2 := hid (bfrom (w := w) (on_alloc _ _) hb2)
  clear hb2
  have ha0 := HA2.out.1
  have ha1 := HA2.out.2.1
  have ha2 := HA2.out.2.2.1
  have ha3 := HA2.out.2.2.2
  have hal := HA2.out.lt
  go_wp2_with fail
  refine (toDesk_any _ _ _ _ es _ _ _ xs _ _ _ ys _ Hn0.out hq0 (Hr0.out.on HB2.out) Hn1.out hq1 (Hr1.out.on HB2.out) Hn2.out hq2 (Hr2.out.on HB2.out)).mono ?_
  rintro e' w3 ⟨g0, g1, g2, rfl, hT3, hb3⟩
  have HT3 := hid hT3
  have HA3 := hid (HA2.out.on hb3)
  have HB3 := hid (bfrom HB2.out hb3)
  clear hT3 hb3 ha0 ha1 ha2 ha3 hal HA2 HB2
  have ha0 := HA3.out.1
  have ha1 := HA3.out.2.1
  have ha2 := HA3.out.2.2.1
  have ha3 := HA3.out.2.2.2
  have hal := HA3.out.lt
  go_wp2_with fail
  refine (sIsDesk_any _ _ _ _ es _ _ _ xs _ _ _ ys _ Hn0.out hq0 HT3.out.1 Hn1.out hq1 HT3.out.2.1 Hn2.out hq2 HT3.out.2.2).mono ?_
  rw [HR.out]
  rintro e' w4 ⟨rfl, hb4⟩
  have HA4 := hid (HA3.out.on hb4)
  have HB4 := hid (bfrom HB3.out hb4)
  clear hb4 ha0 ha1 ha2 ha3 hal HA3 HB3 HT3
  have ha0 := HA4.out.1
  have ha1 := HA4.out.2.1
  have ha2 := HA4.out.2.2.1
  have ha3 := HA4.out.2.2.2
  have hal := HA4.out.lt
  go_wp2_with fail
  refine (toDesk_any _ _ _ _ es _ _ _ xs _ _ _ ys _ Hn0.out hq0 (Hr0.out.on HB4.out) Hn1.out hq1 (Hr1.out.on HB4.out) Hn2.out hq2 (Hr2.out.on HB4.out)).mono ?_
  rintro e' w5 ⟨h0, h1, h2, rfl, hT5, hb5⟩
  have HT5 := hid hT5
  have HA5 := hid (HA4.out.on hb5)
  have HB5 := hid (bfrom HB4.out hb5)
  clear hT5 hb5 ha0 ha1 ha2 ha3 hal HA4 HB4
  have ha0 := HA5.out.1
  have ha1 := HA5.out.2.1
  have ha2 := HA5.out.2.2.1
  have ha3 := HA5.out.2.2.2
  have hal := HA5.out.lt
  go_wp2_with fail
  refine (iIsDesk_any _ _ _ _ es _ _ _ xs _ _ _ ys _ Hn0.out hq0 (HT5.out.1.on (on_alloc _ _)) Hn1.out hq1 (HT5.out.2.1.on (on_alloc _ _)) Hn2.out hq2 (HT5.out.2.2.on (on_alloc _ _))).mono ?_
  rw [HR.out]
  rintro e' w6 ⟨rfl, hb6⟩
  have HA6 := hid ((HA5.out.on (on_alloc _ _)).on hb6)
  have HX6 : Hid (Box4 w6 w5.heap.size s0 (some ⟨h0, 0, none⟩) n0 n0 (some ⟨h1, 0, none⟩) n1 n1 (some ⟨h2, 0, none⟩) n2 n2) := hid ((Box4.new _ _ _ _ _ _ _ _ _ _ _ _).on hb6)
  have HB6 := hid (bfrom (bfrom HB5.out (on_alloc _ _)) hb6)
  have HT6 := hid (And.intro ((HT5.out.1.on (on_alloc _ _)).on hb6) (And.intro ((HT5.out.2.1.on (on_alloc _ _)).on hb6) ((HT5.out.2.2.on (on_alloc _ _)).on hb6)))
  clear hb6 ha0 ha1 ha2 ha3 hal HA5 HB5 HT5
  have ha0 := HA6.out.1
  have ha1 := HA6.out.2.1
  have ha2 := HA6.out.2.2.1
  have ha3 := HA6.out.2.2.2
  have hal := HA6.out.lt
  have hx0 := HX6.out.1
  have hx1 := HX6.out.2.1
  have hx2 := HX6.out.2.2.1
  have hx3 := HX6.out.2.2.2
  have hxl := HX6.out.lt
  go_upto_region 10 with fail
  go_cut [26] (fun u wx => u = .bool false ∧ Hid (Below w6.heap.size w6 wx))
  case first =>
    go_region_with (first
      | (go_at_call 16; refine (toDesk_any _ _ _ _ es _ _ _ xs _ _ _ ys _ Hn0.out hq0 (Hr0.out.on HB6.out.drew) Hn1.out hq1 (Hr1.out.on HB6.out.drew) Hn2.out hq2 (Hr2.out.on HB6.out.drew)).mono ?_; rintro e' w7 ⟨k0, k1, k2, rfl, hT7, hb7⟩; have HT7 := hid hT7; clear hT7; have hu0 := ((bcells hb7).1 _ _ hxl).trans hx0; have hu1 := ((bcells hb7).1 _ _ hxl).trans hx1; have hu2 := ((bcells hb7).1 _ _ hxl).trans hx2; have hu3 := ((bcells hb7).1 _ _ hxl).trans hx3)
      | (go_at_call 11; refine (eqDesk_self _ _ _ _ _ _ es _ _ _ _ _ xs _ _ _ _ _ ys _ Hn0.out hq0 (SeesE.on (w := w6.drew) HT6.out.1 hb7) HT7.out.1 Hn1.out hq1 (SeesI.on (w := w6.drew) HT6.out.2.1 hb7) HT7.out.2.1 Hn2.out hq2 (SeesI.on (w := w6.drew) HT6.out.2.2 hb7) HT7.out.2.2).mono ?_; rintro e' w8 ⟨rfl, hb8⟩))
    all_goals (go_wp2_with fail; go_meet; exact ⟨rfl, hid (bfrom (bfrom (Below.refl _ _).drew hb7) hb8)⟩)
  case rest =>
  obtain ⟨rfl, hcb⟩ := hcut
  have HBc := hid (bfrom HB6.out hcb.out)
  clear hcb
  go_wp2_with fail
  go_ret
  exact ⟨rfl, HBc.out⟩

theorem lawIsDesk_any (s0 : Int) (p0 : Option Addr) (n0 c0 : Nat) (es : List (Int × Int)) (p1 : Option Addr) (n1 c1 : Nat) (xs : List Int) (p2 : Option Addr) (n2 c2 : Nat) (ys : List Int) (w : World) (hn0 : es.length = n0) (m0 : n0 ≤ 9223372036854775807) (hr0 : SeesE w p0 es) (hn1 : xs.length = n1) (m1 : n1 ≤ 9223372036854775807) (hr1 : SeesI w p1 xs) (hn2 : ys.length = n2) (m2 : n2 ≤ 9223372036854775807) (hr2 : SeesI w p2 ys) :
    Calls Try.prog 4 #[.agg #[.int .i64 s0, .slice p0 n0 c0, .slice p1 n1 c1, .slice p2 n2 c2]] w fun e' w' => e' = .returned (.bool true) ∧ Below w.heap.size w w' := by
  by_cases hf : (n0 : Int) + n1 + n2 ≤ 1048576
  · exact lawIsDesk_small s0 p0 n0 c0 es p1 n1 c1 xs p2 n2 c2 ys w hn0 hr0 hn1 hr1 hn2 hr2 hf
  · exact lawIsDesk_big s0 p0 n0 c0 p1 n1 c1 p2 n2 c2 w m0 m1 m2 (by omega)

end Go.Proofs.Ytpadnliebimceaa
