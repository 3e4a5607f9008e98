/- The law on FlowerGraph, walked out of the contracts: it returns true, whatever lies in memory. -/
import Derived.Test.YtppkcpekknhbmaaFlwQ
import Derived.Test.YtppkcpekknhbmaaLawsF
import Derived.Deep.RegionWith
import Derived.Deep.DeepCutAuto
namespace Go.Proofs.Ytppkcpekknhbmaa
open Go.RowKit

set_option maxRecDepth 100000 in
set_option maxHeartbeats 8000000 in
theorem lawFlowerGraph_small (x0 : Int) (w : World)  :
    Calls Try.prog 11 #[.int .i64 x0] w fun e' w' => e' = .returned (.bool true) ∧ Below w.heap.size w w' := by
  obtain ⟨t, L, cd, hR⟩ : ∃ t L cd, fFlowerGraph x0 = (t, L, cd) := ⟨_, _, _, rfl⟩
  obtain ⟨l, hl⟩ : ∃ l, L.length = l := ⟨_, rfl⟩
  have hl1 : l ≤ 1048576 := by have h := fFlowerGraph_len x0 ; rw [hR] at h; rw [← hl]; exact h
  have hl2 : l ≤ 9223372036854775807 := by omega
  obtain ⟨mk, hmk⟩ : ∃ mk : Int, mk = 1 + 2 * (l : Int) := ⟨_, rfl⟩
  have hmk0 : decide (mk < 0) = false := by simp; omega
  have hmk1 : (mk != mk) = false := by simp
  have hne0 : (cd != cd) = false := by simp
  have hS := fun  (ww : World)  => sFlowerGraph_any x0 ww 
  have hI := fun  (ww : World)  => iFlowerGraph_any x0 ww 
  rw [hR] at hS hI
  dsimp only at hS hI
  rw [hl] at hS hI
  have HLl := hid hl
  have Hl1 := hid hl1
  have Hmk := hid hmk
  have HS := hid hS
  have HI := hid hI
  clear  hR hS hI hl hl1 hmk 
  go_enter Try.func11, Try.ntmps11
  go_wp2_with fail
  have HB1 : Hid (Below w.heap.size w w) := hid (Below.refl _ _)
  refine (HS.out  _ ).mono ?_
  rintro e' w2 ⟨qW, capW, rfl, hfW, hb2⟩
  have HB2 := hid (bfrom HB1.out hb2)
  have hs2 : w.heap.size ≤ w2.heap.size := by have h := hb2.size; omega
  clear  HB1 hb2
  have HW_2 := hid hfW
  have hq := fun g h => hfW.own (g := g) h
  have QW := hid hq
  clear hfW hq
  go_wp2_with fail
  refine (HI.out  _ ).mono ?_
  rintro e' w3 ⟨qG, capG, rfl, hfG, hb3⟩
  have HW_3 := hid ((HW_2.out.on (on_alloc _ _)).on hb3)
  have HWB_3 := hid ((Box.new w2 t qW l capW 30).on hb3)
  have HB3 := hid (bfrom (bfrom HB2.out (on_alloc _ _)) hb3)
  have hs3 : w2.heap.size + 1 ≤ w3.heap.size := by have h := hb3.size; simp only [World.size_alloc] at h; omega
  clear HW_2 HB2 hb3
  have HG_3 := hid hfG
  have hq := fun g h => hfG.own (g := g) h
  simp only [World.size_alloc] at hq
  have QG := hid hq
  clear hfG hq
  have hxWB := HWB_3.out.1
  have hyWB := HWB_3.out.2
  have hzWB := HWB_3.out.lt
  go_wp2_with fail
  refine (eqGraph_self _ _ _ _ _ _ L _ HLl.out hl2 (HG_3.out.on (on_alloc _ _)).sees (HW_3.out.on (on_alloc _ _)).sees).mono ?_
  rintro e' w4 ⟨rfl, hb4⟩
  have HW_4 := hid ((HW_3.out.on (on_alloc _ _)).on hb4)
  have HWB_4 := hid ((HWB_3.out.on (on_alloc _ _)).on hb4)
  have HG_4 := hid ((HG_3.out.on (on_alloc _ _)).on hb4)
  have HGB_4 := hid ((Box.new w3 t qG l capG 30).on hb4)
  have HB4 := hid (bfrom (bfrom HB3.out (on_alloc _ _)) hb4)
  have hs4 : w3.heap.size + 1 ≤ w4.heap.size := by have h := hb4.size; simp only [World.size_alloc] at h; omega
  clear hxWB hyWB hzWB
  clear HW_3 HWB_3 HG_3 HB3 hb4
  have hxWB := HWB_4.out.1
  have hyWB := HWB_4.out.2
  have hzWB := HWB_4.out.lt
  have hxGB := HGB_4.out.1
  have hyGB := HGB_4.out.2
  have hzGB := HGB_4.out.lt
  obtain ⟨w5, rfl⟩ : ∃ w5, w5 = w4 := ⟨_, rfl⟩
  have HW_5 := HW_4
  have HWB_5 := HWB_4
  have HG_5 := HG_4
  have HGB_5 := HGB_4
  have HB5 := HB4
  have hs5 := hs4
  clear hxWB hyWB hzWB hxGB hyGB hzGB
  clear HW_4 HWB_4 HG_4 HGB_4 HB4
  have hxWB := HWB_5.out.1
  have hyWB := HWB_5.out.2
  have hzWB := HWB_5.out.lt
  have hxGB := HGB_5.out.1
  have hyGB := HGB_5.out.2
  have hzGB := HGB_5.out.lt
  go_wp2_with fail
  refine (markGraph_k _ _ _ _ 1 L _ Hl1.out (by omega) (by omega) HG_5.out).mono ?_
  rw [← Hmk.out]
  rintro e' w6 ⟨rfl, hfm, hg6⟩
  have HW_6 := hid (HW_5.out.kept hg6 (sep_own QG.out QW.out (by omega)))
  have HWB_6 := hid (HWB_5.out.kept hg6 (sep_box QG.out (by omega)))
  have HGB_6 := hid (HGB_5.out.kept hg6 (sep_box QG.out (by omega)))
  have HB6 := hid (HB5.out.grown hg6 HB5.out.size (fun k hk => by have h := (QG.out k hk).1; omega))
  have hs6 : w5.heap.size ≤ w6.heap.size := hg6.size
  clear hxWB hyWB hzWB hxGB hyGB hzGB
  clear HW_5 HWB_5 HG_5 HGB_5 HB5 hg6
  have HK_6 := hid hfm
  have hq := fun g h => hfm.own (g := g) h
  have QK := hid hq
  clear hfm hq
  have hxWB := HWB_6.out.1
  have hyWB := HWB_6.out.2
  have hzWB := HWB_6.out.lt
  have hxGB := HGB_6.out.1
  have hyGB := HGB_6.out.2
  have hzGB := HGB_6.out.lt
  go_wp2_with fail
  refine (heldGraph_sees _ _ _ _ _ Hl1.out HK_6.out.sees).mono ?_
  rw [← Hmk.out]
  rintro e' w7 ⟨rfl, hb7⟩
  have HW_7 := hid (HW_6.out.on hb7)
  have HWB_7 := hid (HWB_6.out.on hb7)
  have HGB_7 := hid (HGB_6.out.on hb7)
  have HK_7 := hid (HK_6.out.on hb7)
  have HB7 := hid (bfrom HB6.out hb7)
  have hs7 : w6.heap.size ≤ w7.heap.size := by have h := hb7.size; omega
  clear hxWB hyWB hzWB hxGB hyGB hzGB
  clear HW_6 HWB_6 HGB_6 HK_6 HB6 hb7
  have hxWB := HWB_7.out.1
  have hyWB := HWB_7.out.2
  have hzWB := HWB_7.out.lt
  have hxGB := HGB_7.out.1
  have hyGB := HGB_7.out.2
  have hzGB := HGB_7.out.lt
  go_wp2_with fail
  refine (HI.out  _ ).mono ?_
  rintro e' w8 ⟨qH, capH, rfl, hfH, hb8⟩
  have HW_8 := hid (HW_7.out.on hb8)
  have HWB_8 := hid (HWB_7.out.on hb8)
  have HGB_8 := hid (HGB_7.out.on hb8)
  have HK_8 := hid (HK_7.out.on hb8)
  have HB8 := hid (bfrom HB7.out hb8)
  have hs8 : w7.heap.size ≤ w8.heap.size := by have h := hb8.size; omega
  clear hxWB hyWB hzWB hxGB hyGB hzGB
  clear HW_7 HWB_7 HGB_7 HK_7 HB7 hb8
  have HH_8 := hid hfH
  have hq := fun g h => hfH.own (g := g) h
  have QH := hid hq
  clear hfH hq
  have hxWB := HWB_8.out.1
  have hyWB := HWB_8.out.2
  have hzWB := HWB_8.out.lt
  have hxGB := HGB_8.out.1
  have hyGB := HGB_8.out.2
  have hzGB := HGB_8.out.lt
  go_wp2_with fail
  refine (eqGraph_self _ _ _ _ _ _ L _ HLl.out hl2 (HH_8.out.on (on_alloc _ _)).sees (HW_8.out.on (on_alloc _ _)).sees).mono ?_
  rintro e' w9 ⟨rfl, hb9⟩
  have HW_9 := hid ((HW_8.out.on (on_alloc _ _)).on hb9)
  have HWB_9 := hid ((HWB_8.out.on (on_alloc _ _)).on hb9)
  have HGB_9 := hid ((HGB_8.out.on (on_alloc _ _)).on hb9)
  have HK_9 := hid ((HK_8.out.on (on_alloc _ _)).on hb9)
  have HH_9 := hid ((HH_8.out.on (on_alloc _ _)).on hb9)
  have HHB__9 := hid ((Box.new w8 t qH l capH 30).on hb9)
  have HB9 := hid (bfrom (bfrom HB8.out (on_alloc _ _)) hb9)
  have hs9 : w8.heap.size + 1 ≤ w9.heap.size := by have h := hb9.size; simp only [World.size_alloc] at h; omega
  clear hxWB hyWB hzWB hxGB hyGB hzGB
  clear HW_8 HWB_8 HGB_8 HK_8 HH_8 HB8 hb9
  have hxWB := HWB_9.out.1
  have hyWB := HWB_9.out.2
  have hzWB := HWB_9.out.lt
  have hxGB := HGB_9.out.1
  have hyGB := HGB_9.out.2
  have hzGB := HGB_9.out.lt
  have hxHB_ := HHB__9.out.1
  have hyHB_ := HHB__9.out.2
  have hzHB_ := HHB__9.out.lt
  go_wp2_with fail
  refine (heldGraph_sees _ _ _ _ _ Hl1.out HK_9.out.sees).mono ?_
  rw [← Hmk.out]
  rintro e' w10 ⟨rfl, hb10⟩
  have HW_10 := hid (HW_9.out.on hb10)
  have HWB_10 := hid (HWB_9.out.on hb10)
  have HGB_10 := hid (HGB_9.out.on hb10)
  have HK_10 := hid (HK_9.out.on hb10)
  have HH_10 := hid (HH_9.out.on hb10)
  have HHB__10 := hid (HHB__9.out.on hb10)
  have HB10 := hid (bfrom HB9.out hb10)
  have hs10 : w9.heap.size ≤ w10.heap.size := by have h := hb10.size; omega
  clear hxWB hyWB hzWB hxGB hyGB hzGB hxHB_ hyHB_ hzHB_
  clear HW_9 HWB_9 HGB_9 HK_9 HH_9 HHB__9 HB9 hb10
  go_wp2
  go_ret
  exact ⟨rfl, HB10.out⟩

theorem lawFlowerGraph_any (x0 : Int) (w : World) (_ : (Lit.int .i64 x0).wf = true) :
    Calls Try.prog 11 #[.int .i64 x0] w fun e' w' => e' = .returned (.bool true) ∧ Below w.heap.size w w' := by
  exact lawFlowerGraph_small x0 w 

end Go.Proofs.Ytppkcpekknhbmaa
