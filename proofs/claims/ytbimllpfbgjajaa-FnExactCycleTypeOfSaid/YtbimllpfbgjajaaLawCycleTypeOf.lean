/- The law on CycleTypeOf, walked out of the contracts: it returns true, whatever lies in memory. -/
import Derived.Test.YtbimllpfbgjajaaCtQ
import Derived.Test.YtbimllpfbgjajaaLawsF
import Derived.Deep.RegionWith
import Derived.Deep.DeepCutAuto
namespace Go.Proofs.Ytbimllpfbgjajaa
open Go.RowKit

set_option maxRecDepth 100000 in
set_option maxHeartbeats 8000000 in
theorem lawCycleTypeOf_big0 (p0 : Option Addr) (n0 c0 : Nat) (w : World) (m0 : n0 ≤ 9223372036854775807) (b0 : 1048576 < n0) :
    Calls Try.prog 11 #[.slice p0 n0 c0] w fun e' w' => e' = .returned (.bool true) ∧ Below w.heap.size w w' := by
  go_enter Try.func11, Try.ntmps11
  go_wp2_with fail
  go_ret
  exact ⟨rfl, by go_grown⟩

set_option maxRecDepth 100000 in
set_option maxHeartbeats 8000000 in
theorem lawCycleTypeOf_small (p0 : Option Addr) (n0 c0 : Nat) (es0 : List Int) (w : World) (hn0 : es0.length = n0) (hm0 : n0 ≤ 1048576) (hr0 : SeesI w p0 es0) :
    Calls Try.prog 11 #[.slice p0 n0 c0] w fun e' w' => e' = .returned (.bool true) ∧ Below w.heap.size w w' := by
  have hq0 : n0 ≤ 9223372036854775807 := by omega
  have Hn0 := hid hn0
  have Hm0 := hid hm0
  have Hr0 := hid hr0
  obtain ⟨L, cd, hR⟩ : ∃ L cd, fCycleTypeOf es0 = (L, cd) := ⟨_, _, rfl⟩
  obtain ⟨l, hl⟩ : ∃ l, L.length = l := ⟨_, rfl⟩
  have hl1 : l ≤ 1048576 := by have h := fCycleTypeOf_len es0 (by omega); rw [hR] at h; rw [← hl]; exact h
  have hl2 : l ≤ 9223372036854775807 := by omega
  obtain ⟨mk, hmk⟩ : ∃ mk : Int, mk = 1 + (l : Int) := ⟨_, rfl⟩
  have hmk0 : decide (mk < 0) = false := by simp; omega
  have hmk1 : (mk != mk) = false := by simp
  have hne0 : (cd != cd) = false := by simp
  have hS := fun (q0 : Option Addr) (cc0 : Nat) (ww : World) (hh0 : SeesI ww q0 es0) => sCycleTypeOf_any q0 n0 cc0 es0 ww hm0 hn0 hh0
  have hI := fun (q0 : Option Addr) (cc0 : Nat) (ww : World) (hh0 : SeesI ww q0 es0) => iCycleTypeOf_any q0 n0 cc0 es0 ww hm0 hn0 hh0
  rw [hR] at hS hI
  dsimp only at hS hI
  rw [hl] at hS hI
  have HLl := hid hl
  have Hl1 := hid hl1
  have Hmk := hid hmk
  have HS := hid hS
  have HI := hid hI
  have hbb0 : n0 ≤ 1048576 := hm0
  obtain ⟨kk0, hkk0⟩ : ∃ kk0 : Int, kk0 = 1 + (n0 : Int) := ⟨_, rfl⟩
  have hkb0 : 0 ≤ kk0 ∧ kk0 ≤ 4194304 := by omega
  have hkn : decide (kk0 < 0) = false := by simp; omega
  have Hkk0 := hid hkk0
  have Hkb0 := hid hkb0
  clear hn0 hm0 hr0 hR hS hI hl hl1 hmk hkk0 hkb0
  go_enter Try.func11, Try.ntmps11
  go_wp2_with fail
  have HB1 : Hid (Below w.heap.size w w) := hid (Below.refl _ _)
  refine (toInts_sees _ _ _ es0 _ Hn0.out Hm0.out (Hr0.out.on HB1.out)).mono ?_
  rintro e' w2 ⟨gT0, rfl, hgT0, hoT0, hb2⟩
  have hfT0 := FreshI.of_own hoT0 Hn0.out hgT0
  clear hoT0 hgT0
  have HB2 := hid (bfrom HB1.out hb2)
  have hs2 : w.heap.size ≤ w2.heap.size := by have h := hb2.size; omega
  clear  HB1 hb2
  have HT0_2 := hid hfT0
  have hq := fun g h => hfT0.own (g := g) h
  have QT0 := hid hq
  clear hfT0 hq
  go_wp2_with fail
  refine (HS.out _ _ _ HT0_2.out.sees).mono ?_
  rintro e' w3 ⟨qW, capW, rfl, hfW, hb3⟩
  have HT0_3 := hid (HT0_2.out.on hb3)
  have HB3 := hid (bfrom HB2.out hb3)
  have hs3 : w2.heap.size ≤ w3.heap.size := by have h := hb3.size; omega
  clear HT0_2 HB2 hb3
  have HW_3 := hid hfW
  have hq := fun g h => hfW.own (g := g) h
  have QW := hid hq
  clear hfW hq
  clear HT0_3
  go_wp2_with fail
  refine (toInts_sees _ _ _ es0 _ Hn0.out Hm0.out (Hr0.out.on HB3.out)).mono ?_
  rintro e' w4 ⟨gX0, rfl, hgX0, hoX0, hb4⟩
  have hfX0 := FreshI.of_own hoX0 Hn0.out hgX0
  clear hoX0 hgX0
  have HW_4 := hid (HW_3.out.on hb4)
  have HB4 := hid (bfrom HB3.out hb4)
  have hs4 : w3.heap.size ≤ w4.heap.size := by have h := hb4.size; omega
  clear HW_3 HB3 hb4
  have HX0_4 := hid hfX0
  have hq := fun g h => hfX0.own (g := g) h
  have QX0 := hid hq
  clear hfX0 hq
  go_wp2_with fail
  refine (HI.out _ _ _ HX0_4.out.sees).mono ?_
  rintro e' w5 ⟨qG, capG, rfl, hfG, hb5⟩
  have HW_5 := hid (HW_4.out.on hb5)
  have HX0_5 := hid (HX0_4.out.on hb5)
  have HB5 := hid (bfrom HB4.out hb5)
  have hs5 : w4.heap.size ≤ w5.heap.size := by have h := hb5.size; omega
  clear HW_4 HX0_4 HB4 hb5
  have HG_5 := hid hfG
  have hq := fun g h => hfG.own (g := g) h
  have QG := hid hq
  clear hfG hq
  go_wp2_with fail
  refine (eqInts_self _ _ _ _ _ L _ HLl.out hl2 HG_5.out.sees HW_5.out.sees).mono ?_
  rintro e' w6 ⟨rfl, hb6⟩
  have HW_6 := hid (HW_5.out.on hb6)
  have HX0_6 := hid (HX0_5.out.on hb6)
  have HG_6 := hid (HG_5.out.on hb6)
  have HB6 := hid (bfrom HB5.out hb6)
  have hs6 : w5.heap.size ≤ w6.heap.size := by have h := hb6.size; omega
  clear HW_5 HX0_5 HG_5 HB5 hb6
  go_wp2_with fail
  refine (toInts_sees _ _ _ es0 _ Hn0.out Hm0.out (Hr0.out.on HB6.out)).mono ?_
  rintro e' w7 ⟨gY0, rfl, hgY0, hoY0, hb7⟩
  have hfY0 := FreshI.of_own hoY0 Hn0.out hgY0
  clear hoY0 hgY0
  have HW_7 := hid (HW_6.out.on hb7)
  have HX0_7 := hid (HX0_6.out.on hb7)
  have HG_7 := hid (HG_6.out.on hb7)
  have HB7 := hid (bfrom HB6.out hb7)
  have hs7 : w6.heap.size ≤ w7.heap.size := by have h := hb7.size; omega
  clear HW_6 HX0_6 HG_6 HB6 hb7
  have HY0_7 := hid hfY0
  have hq := fun g h => hfY0.own (g := g) h
  have QY0 := hid hq
  clear hfY0 hq
  go_wp2_with fail
  refine (eqInts_self _ _ _ _ _ es0 _ Hn0.out hq0 HX0_7.out.sees HY0_7.out.sees).mono ?_
  rintro e' w8 ⟨rfl, hb8⟩
  have HW_8 := hid (HW_7.out.on hb8)
  have HX0_8 := hid (HX0_7.out.on hb8)
  have HG_8 := hid (HG_7.out.on hb8)
  have HY0_8 := hid (HY0_7.out.on hb8)
  have HB8 := hid (bfrom HB7.out hb8)
  have hs8 : w7.heap.size ≤ w8.heap.size := by have h := hb8.size; omega
  clear HW_7 HX0_7 HG_7 HY0_7 HB7 hb8
  clear HY0_8
  go_wp2_with fail
  refine (markInts_k _ _ _ 1 es0 _ Hm0.out (by omega) (by omega) HX0_8.out).mono ?_
  rw [← Hkk0.out]
  rintro e' w9 ⟨rfl, hfm0, hg9⟩
  have HW_9 := hid (HW_8.out.kept hg9 (sep_own QX0.out QW.out (by omega)))
  have HG_9 := hid (HG_8.out.kept hg9 (sep_own QX0.out QG.out (by omega)))
  have HB9 := hid (HB8.out.grown hg9 HB8.out.size (fun k hk => by have h := (QX0.out k hk).1; omega))
  have hs9 : w8.heap.size ≤ w9.heap.size := hg9.size
  clear HW_8 HX0_8 HG_8 HB8 hg9
  clear hfm0
  go_wp2_with fail
  refine (eqInts_self _ _ _ _ _ L _ HLl.out hl2 HG_9.out.sees HW_9.out.sees).mono ?_
  rintro e' w10 ⟨rfl, hb10⟩
  have HW_10 := hid (HW_9.out.on hb10)
  have HG_10 := hid (HG_9.out.on hb10)
  have HB10 := hid (bfrom HB9.out hb10)
  have hs10 : w9.heap.size ≤ w10.heap.size := by have h := hb10.size; omega
  clear HW_9 HG_9 HB9 hb10
  go_wp2_with fail
  refine (markInts_k _ _ _ 1 L _ Hl1.out (by omega) (by omega) HG_10.out).mono ?_
  rw [← Hmk.out]
  rintro e' w11 ⟨rfl, hfm, hg11⟩
  have HW_11 := hid (HW_10.out.kept hg11 (sep_own QG.out QW.out (by omega)))
  have HB11 := hid (HB10.out.grown hg11 HB10.out.size (fun k hk => by have h := (QG.out k hk).1; omega))
  have hs11 : w10.heap.size ≤ w11.heap.size := hg11.size
  clear HW_10 HG_10 HB10 hg11
  have HK_11 := hid hfm
  have hq := fun g h => hfm.own (g := g) h
  have QK := hid hq
  clear hfm hq
  go_wp2_with fail
  refine (heldInts_sees _ _ _ _ Hl1.out HK_11.out.sees).mono ?_
  rw [← Hmk.out]
  rintro e' w11' ⟨rfl, rfl⟩
  go_wp2_with fail
  refine (toInts_sees _ _ _ es0 _ Hn0.out Hm0.out (Hr0.out.on HB11.out)).mono ?_
  rintro e' w12 ⟨gZ0, rfl, hgZ0, hoZ0, hb12⟩
  have hfZ0 := FreshI.of_own hoZ0 Hn0.out hgZ0
  clear hoZ0 hgZ0
  have HW_12 := hid (HW_11.out.on hb12)
  have HK_12 := hid (HK_11.out.on hb12)
  have HB12 := hid (bfrom HB11.out hb12)
  have hs12 : w11.heap.size ≤ w12.heap.size := by have h := hb12.size; omega
  clear HW_11 HK_11 HB11 hb12
  have HZ0_12 := hid hfZ0
  have hq := fun g h => hfZ0.own (g := g) h
  have QZ0 := hid hq
  clear hfZ0 hq
  go_wp2_with fail
  refine (HI.out _ _ _ HZ0_12.out.sees).mono ?_
  rintro e' w13 ⟨qH, capH, rfl, hfH, hb13⟩
  have HW_13 := hid (HW_12.out.on hb13)
  have HK_13 := hid (HK_12.out.on hb13)
  have HZ0_13 := hid (HZ0_12.out.on hb13)
  have HB13 := hid (bfrom HB12.out hb13)
  have hs13 : w12.heap.size ≤ w13.heap.size := by have h := hb13.size; omega
  clear HW_12 HK_12 HZ0_12 HB12 hb13
  have HH_13 := hid hfH
  have hq := fun g h => hfH.own (g := g) h
  have QH := hid hq
  clear hfH hq
  clear HZ0_13
  go_wp2_with fail
  refine (eqInts_self _ _ _ _ _ L _ HLl.out hl2 HH_13.out.sees HW_13.out.sees).mono ?_
  rintro e' w14 ⟨rfl, hb14⟩
  have HW_14 := hid (HW_13.out.on hb14)
  have HK_14 := hid (HK_13.out.on hb14)
  have HH_14 := hid (HH_13.out.on hb14)
  have HB14 := hid (bfrom HB13.out hb14)
  have hs14 : w13.heap.size ≤ w14.heap.size := by have h := hb14.size; omega
  clear HW_13 HK_13 HH_13 HB13 hb14
  go_wp2_with fail
  refine (heldInts_sees _ _ _ _ Hl1.out HK_14.out.sees).mono ?_
  rw [← Hmk.out]
  rintro e' w14' ⟨rfl, rfl⟩
  go_wp2
  go_ret
  exact ⟨rfl, HB14.out⟩

theorem lawCycleTypeOf_any (p0 : Option Addr) (n0 c0 : Nat) (es0 : List Int) (w : World) (hn0 : es0.length = n0) (hl0 : n0 ≤ 9223372036854775807) (hr0 : SeesI w p0 es0) :
    Calls Try.prog 11 #[.slice p0 n0 c0] w fun e' w' => e' = .returned (.bool true) ∧ Below w.heap.size w w' := by
  rcases Nat.lt_or_ge 1048576 (n0) with h0 | h0
  · exact lawCycleTypeOf_big0 p0 n0 c0 w hl0 (by omega)
  exact lawCycleTypeOf_small p0 n0 c0 es0 w hn0 (by omega) hr0

end Go.Proofs.Ytbimllpfbgjajaa
