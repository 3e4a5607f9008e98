/- The law on NewDesk, walked out of the contracts: it returns true, whatever lies in memory. -/
import Derived.Test.YtpadnliebimceaaNdI
import Derived.Test.YtpadnliebimceaaNdN
import Derived.Deep.RegionWith
import Derived.Deep.DeepCutAuto
namespace Go.Proofs.Ytpadnliebimceaa
open Go.RowKit

set_option maxRecDepth 100000 in
set_option maxHeartbeats 8000000 in
theorem lawNewDesk_any (w : World) :
    Calls Try.prog 3 #[] w fun e' w' => e' = .returned (.bool true) ∧ Below w.heap.size w w' := by
  obtain ⟨K, hK⟩ : ∃ K, k4L 6 = K := ⟨_, rfl⟩
  have hKl : K.length = 6 := by rw [← hK]; exact k4L_len 6
  have hS := sNewDesk_any
  have hI := iNewDesk_any
  rw [hK] at hS hI
  have HS := hid hS
  have HI := hid hI
  have HKl := hid hKl
  clear hS hI hK hKl
  go_enter Try.func3, Try.ntmps3
  go_wp2_with fail
  refine (HS.out _).mono ?_
  rintro e w2 ⟨qW, capW, p1, p2, rfl, hfW, hb2⟩
  have HB2 := hid hb2
  have HW2 := hid hfW
  have hs2 : w.heap.size ≤ w2.heap.size := hb2.size
  have QW := hid (fun g h => hfW.own (g := g) h)
  clear hfW hb2
  go_wp2_with fail
  refine (HI.out _).mono ?_
  rintro e w3 ⟨gG, rfl, hgG, hoG, hb3⟩
  have HW3 := hid ((HW2.out.on (on_alloc _ _)).on hb3)
  have HX3 : Hid (Box4 w3 w2.heap.size 4 qW 6 capW p1 0 0 p2 0 0) := hid ((Box4.new w2 4 qW 6 capW p1 0 0 p2 0 0 27).on hb3)
  have HB3 := hid (bfrom (bfrom HB2.out (on_alloc _ _)) hb3)
  simp only [World.size_alloc] at hgG
  have hgl := hoG.lt
  have HG3 := hid hoG
  clear hoG hb3 HW2 HB2
  have hx0 := HX3.out.1
  have hx1 := HX3.out.2.1
  have hx2 := HX3.out.2.2.1
  have hx3 := HX3.out.2.2.2
  have hxl := HX3.out.lt
  go_wp2_with fail
  refine (eqDesk_self _ _ _ _ _ _ K _ _ _ _ _ [] _ _ _ _ _ [] _ HKl.out (by omega) ((HG3.out.on (on_alloc _ _)).sees) ((HW3.out.on (on_alloc _ _)).sees) rfl (Nat.zero_le _) (.inl rfl) (.inl rfl) rfl (Nat.zero_le _) (.inl rfl) (.inl rfl)).mono ?_
  rintro e w4 ⟨rfl, hb4⟩
  have HW4 := hid ((HW3.out.on (on_alloc _ _)).on hb4)
  have HX4 := hid ((HX3.out.on (on_alloc _ _)).on hb4)
  have HY4 : Hid (Box4 w4 w3.heap.size 4 (some ⟨gG, 0, none⟩) 6 6 none 0 0 none 0 0) := hid ((Box4.new w3 4 (some ⟨gG, 0, none⟩) 6 6 none 0 0 none 0 0 27).on hb4)
  have HG4 := hid ((HG3.out.on (on_alloc _ _)).on hb4)
  have HB4 := hid (bfrom (bfrom HB3.out (on_alloc _ _)) hb4)
  have hs4 : w3.heap.size + 1 ≤ w4.heap.size := by have h := hb4.size; simp only [World.size_alloc] at h; omega
  clear hb4 HW3 HX3 HG3 HB3 hx0 hx1 hx2 hx3 hxl
  have hy0 := HY4.out.1
  have hy1 := HY4.out.2.1
  have hy2 := HY4.out.2.2.1
  have hy3 := HY4.out.2.2.2
  have hyl := HY4.out.lt
  go_wp2_with fail
  refine (markDesk_k (B := w2.heap.size + 1) 6 6 4 (some ⟨gG, 0, none⟩) none none 0 0 K _ (by omega) (FreshE.of_own HG4.out HKl.out hgG)).mono ?_
  rintro e w5 ⟨rfl, hfm, hg5⟩
  have hne : ∀ x, x ≠ gG → some x ≠ (Value.slice (some ⟨gG, 0, none⟩) 6 6).ownBlock := fun x h e => h (Option.some.inj e)
  have HW5 := hid (HW4.out.kept hg5 (sep_own (a := gG) (b := gG + 1) (fun g h => by have e : gG = g := Option.some.inj h; omega) QW.out (by omega)))
  have HX5 := hid (HX4.out.kept hg5 (hne _ (by omega)))
  have HY5 := hid (HY4.out.kept hg5 (hne _ (by omega)))
  have HB5 := hid (HB4.out.grown hg5 HB4.out.size (fun k hk => by have e : gG = k := Option.some.inj hk; omega))
  have HK5 := hid hfm
  have hs5 := hg5.size
  clear hfm hg5 HW4 HX4 HY4 HB4 HG4 hy0 hy1 hy2 hy3 hyl
  have hy0 := HY5.out.1
  have hy1 := HY5.out.2.1
  have hy2 := HY5.out.2.2.1
  have hy3 := HY5.out.2.2.2
  have hyl := HY5.out.lt
  go_wp2_with fail
  refine (heldDesk_sees 6 6 4 (some ⟨gG, 0, none⟩) none none 0 0 _ (by omega) HK5.out.sees).mono ?_
  rintro e w6 ⟨rfl, hb6⟩
  have HW6 := hid (HW5.out.on hb6)
  have HX6 := hid (HX5.out.on hb6)
  have HY6 := hid (HY5.out.on hb6)
  have HK6 := hid (HK5.out.on hb6)
  have HB6 := hid (bfrom HB5.out hb6)
  clear hb6 HW5 HX5 HY5 HK5 HB5 hy0 hy1 hy2 hy3 hyl
  go_wp2_with fail
  refine (HI.out _).mono ?_
  rintro e w7 ⟨gH, rfl, hgH, hoH, hb7⟩
  have HW7 := hid (HW6.out.on hb7)
  have HX7 := hid (HX6.out.on hb7)
  have HY7 := hid (HY6.out.on hb7)
  have HK7 := hid (HK6.out.on hb7)
  have HB7 := hid (bfrom HB6.out hb7)
  have HH7 := hid hoH
  clear hb7 hoH HW6 HX6 HY6 HK6 HB6
  have hx0 := HX7.out.1
  have hx1 := HX7.out.2.1
  have hx2 := HX7.out.2.2.1
  have hx3 := HX7.out.2.2.2
  have hxl := HX7.out.lt
  go_wp2_with fail
  refine (eqDesk_self _ _ _ _ _ _ K _ _ _ _ _ [] _ _ _ _ _ [] _ HKl.out (by omega) ((HH7.out.on (on_alloc _ _)).sees) ((HW7.out.on (on_alloc _ _)).sees) rfl (Nat.zero_le _) (.inl rfl) (.inl rfl) rfl (Nat.zero_le _) (.inl rfl) (.inl rfl)).mono ?_
  rintro e w8 ⟨rfl, hb8⟩
  have HY8 := hid ((HY7.out.on (on_alloc _ _)).on hb8)
  have HK8 := hid ((HK7.out.on (on_alloc _ _)).on hb8)
  have HB8 := hid (bfrom (bfrom HB7.out (on_alloc _ _)) hb8)
  clear hb8 HW7 HX7 HY7 HK7 HB7 HH7 hx0 hx1 hx2 hx3 hxl
  have hy0 := HY8.out.1
  have hy1 := HY8.out.2.1
  have hy2 := HY8.out.2.2.1
  have hy3 := HY8.out.2.2.2
  have hyl := HY8.out.lt
  go_wp2_with fail
  refine (heldDesk_sees 6 6 4 (some ⟨gG, 0, none⟩) none none 0 0 _ (by omega) HK8.out.sees).mono ?_
  rintro e w9 ⟨rfl, hb9⟩
  have HB9 := hid (bfrom HB8.out hb9)
  clear hb9
  go_wp2_with fail
  go_ret
  exact ⟨rfl, HB9.out⟩

end Go.Proofs.Ytpadnliebimceaa
