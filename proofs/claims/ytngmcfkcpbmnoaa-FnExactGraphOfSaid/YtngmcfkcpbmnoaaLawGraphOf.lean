/- The law on GraphOf, walked out of the contracts: it returns true, whatever edges lie in memory. -/
import Derived.Test.YtngmcfkcpbmnoaaSpecF
namespace Go.Proofs.Ytngmcfkcpbmnoaa
open Go.RowKit

theorem eqGraph_self (t : Int) (p q : Option Addr) (n c d : Nat) (xs : List (Int × Int)) (w : World) (hx : xs.length = n) (hn : n ≤ 9223372036854775807) (hp : SeesE w p xs) (hq : SeesE w q xs) :
    Calls Try.prog 20 #[.agg #[.int .i64 t, .slice p n c], .agg #[.int .i64 t, .slice q n d]] w fun e w' => e = .returned (.bool true) ∧ Below w.heap.size w w' :=
  (eqGraph_any t t p q n n c d xs xs w hx hx hn hn hp hq).mono fun e w' ⟨he, hb⟩ => ⟨by rw [he]; simp, hb⟩

theorem eqEdgeS_self (p q : Option Addr) (n c d : Nat) (xs : List (Int × Int)) (w : World) (hx : xs.length = n) (hn : n ≤ 9223372036854775807) (hp : SeesE w p xs) (hq : SeesE w q xs) :
    Calls Try.prog 25 #[.slice p n c, .slice q n d] w fun e w' => e = .returned (.bool true) ∧ Below w.heap.size w w' :=
  (eqEdgeS_any p q n n c d xs xs w hx hx hn hn hp hq).mono fun e w' ⟨he, hb⟩ => ⟨by rw [he]; simp, hb⟩

set_option maxRecDepth 100000 in
set_option maxHeartbeats 1000000 in
theorem lawGraphOf_big (s : Int) (p : Option Addr) (n c : Nat) (w : World) (h1 : n ≤ 9223372036854775807) (h2 : 1048576 < n) :
    Calls Try.prog 4 #[.int .i64 s, .slice p n c] w fun e' w' => e' = .returned (.bool true) ∧ Below w.heap.size w w' := by
  have H2 := hid h2
  clear h2
  go_enter Try.func4, Try.ntmps4
  go_wp2_with (go_at_call 21; refine (szEdgeS_any _ _ _ _ _ h1 (by omega) (by omega)).mono ?_; rw [if_pos (by have := H2.out; omega)]; rintro e' w2 ⟨rfl, rfl⟩)
  go_ret
  exact ⟨rfl, Below.refl _ _⟩

set_option maxRecDepth 100000 in
set_option maxHeartbeats 4000000 in
theorem lawGraphOf_small (s : Int) (p : Option Addr) (n c : Nat) (es : List (Int × Int)) (w : World) (hn : es.length = n) (hlen : n ≤ 1048576) (hr : SeesE w p es) :
    Calls Try.prog 4 #[.int .i64 s, .slice p n c] w fun e' w' => e' = .returned (.bool true) ∧ Below w.heap.size w w' := by
  have hm1 : n ≤ 9223372036854775807 := by omega
  have hge : ¬ ((1048576 : Int) - n < 0) := by omega
  have hkn : decide ((1 : Int) + 2 * n < 0) = false := by simp; omega
  obtain ⟨t, L, cd, hR⟩ : ∃ t L cd, gofF s es = (t, L, cd) := ⟨_, _, _, rfl⟩
  obtain ⟨l, hl⟩ : ∃ l, L.length = l := ⟨_, rfl⟩
  have hl1 : l ≤ 1048576 := by have h := gofF_len s es (by omega); rw [hR] at h; rw [← hl]; exact h
  have hl2 : l ≤ 9223372036854775807 := by omega
  have hkl : decide ((1 : Int) + 2 * l < 0) = false := by simp; omega
  have hne1 : ((1 : Int) + 2 * l != 1 + 2 * l) = false := by simp
  have hne0 : (cd != cd) = false := by simp
  have Hn := hid hn
  have Hr := hid hr
  have Hm := hid hlen
  have HLl := hid hl
  have Hl1 := hid hl1
  have hS := fun (q : Option Addr) (cc : Nat) (ww : World) (hh : SeesE ww q es) => sGraphOf_any s q n cc es ww hlen hn hh
  have hI := fun (q : Option Addr) (cc : Nat) (ww : World) (hh : SeesE ww q es) => iGraphOf_any s q n cc es ww hlen hn hh
  rw [hR] at hS hI
  dsimp only at hS hI
  rw [hl] at hS hI
  have HS := hid hS
  have HI := hid hI
  clear hn hr hlen hl hl1 hR hS hI
  go_enter Try.func4, Try.ntmps4
  go_wp2_with (go_at_call 21; refine (szEdgeS_any _ _ _ _ _ hm1 (by omega) (by omega)).mono ?_; rw [if_neg (by have := Hm.out; omega)]; rintro e' w2 ⟨rfl, rfl⟩)
  -- the model's answer, in a box
  refine (toEdgeS_sees _ _ _ es _ Hn.out Hm.out Hr.out).mono ?_
  rintro e' w2 ⟨rfl, ho2, hb2⟩
  have HO2 := hid ho2
  clear ho2
  go_wp2_with fail
  refine (HS.out _ _ _ HO2.out.sees).mono ?_
  rintro e' w3 ⟨q0, cap0, rfl, hf3, hb3⟩
  have HF3 := hid hf3
  have Hq0 := hid (fun g h => (hf3.own (g := g) h).2)
  have HB3 := hid (bfrom hb2 hb3)
  have hs3 : w.heap.size ≤ w3.heap.size := HB3.out.size
  clear hf3 HO2
  go_wp2_with fail
  -- the argument's copy
  refine (toEdgeS_sees _ _ _ es _ Hn.out Hm.out (Hr.out.on (bfrom HB3.out (on_alloc _ _)))).mono ?_
  rintro e' w4 ⟨rfl, ho4, hb4⟩
  have hz4 : (w3.alloc (.cells #[.int .i64 t, .slice q0 l cap0] 29)).heap.size = w3.heap.size + 1 := by simp
  rw [hz4] at ho4
  have HX4 := hid (FreshE.of_own ho4 Hn.out (Nat.le_refl _))
  have HB4 := hid (bfrom (bfrom HB3.out (on_alloc _ _)) hb4)
  have HW4 := hid ((Box.new w3 t q0 l cap0 29).on hb4)
  have HF4 := hid ((HF3.out.on (on_alloc _ _)).on hb4)
  have hs4 : w3.heap.size + 1 < w4.heap.size := ho4.lt
  clear ho4 hz4
  go_wp2_with fail
  -- the program's answer, in a box
  refine (HI.out _ _ _ HX4.out.sees).mono ?_
  rintro e' w5 ⟨q1, cap1, rfl, hf5, hb5⟩
  have HG5 := hid hf5
  have Hq1 := hid (fun g h => hf5.own (g := g) h)
  have HX5 := hid (HX4.out.on hb5)
  have HB5 := hid (bfrom HB4.out hb5)
  have HW5 := hid (HW4.out.on hb5)
  have HF5 := hid (HF4.out.on hb5)
  have hs5 : w4.heap.size ≤ w5.heap.size := hb5.size
  have hs5' : w3.heap.size < w5.heap.size := by omega
  have hx5 := HW5.out.1
  have hy5 := HW5.out.2
  clear hf5 HX4 HW4 HF4
  go_wp2_with fail
  refine (eqGraph_self _ _ _ _ _ _ L _ HLl.out hl2 (HG5.out.sees.on (on_alloc _ _)) (HF5.out.sees.on (on_alloc _ _))).mono ?_
  rintro e' w6 ⟨rfl, hb6⟩
  have HX6 := hid ((HX5.out.on (on_alloc _ _)).on hb6)
  have HG6 := hid ((HG5.out.on (on_alloc _ _)).on hb6)
  have HF6 := hid ((HF5.out.on (on_alloc _ _)).on hb6)
  have HW6 := hid ((HW5.out.on (on_alloc _ _)).on hb6)
  have HU6 := hid ((Box.new w5 t q1 l cap1 29).on hb6)
  have HB6 := hid (bfrom (bfrom HB5.out (on_alloc _ _)) hb6)
  have hs6 : w5.heap.size < w6.heap.size := HU6.out.lt
  clear HX5 HG5 HF5 HW5 HB5 hx5 hy5
  go_wp2_with fail
  refine (toEdgeS_sees _ _ _ es _ Hn.out Hm.out (Hr.out.on HB6.out)).mono ?_
  rintro e' w7 ⟨rfl, ho7, hb7⟩
  have HO7 := hid ho7
  have HX7 := hid (HX6.out.on hb7)
  have HG7 := hid (HG6.out.on hb7)
  have HF7 := hid (HF6.out.on hb7)
  have HW7 := hid (HW6.out.on hb7)
  have HU7 := hid (HU6.out.on hb7)
  have HB7 := hid (bfrom HB6.out hb7)
  clear ho7 HX6 HG6 HF6 HW6 HU6 HB6
  go_wp2_with fail
  refine (eqEdgeS_self _ _ _ _ _ es _ Hn.out hm1 HX7.out.sees HO7.out.sees).mono ?_
  rintro e' w8 ⟨rfl, hb8⟩
  have HX8 := hid (HX7.out.on hb8)
  have HG8 := hid (HG7.out.on hb8)
  have HF8 := hid (HF7.out.on hb8)
  have HW8 := hid (HW7.out.on hb8)
  have HU8 := hid (HU7.out.on hb8)
  have HB8 := hid (bfrom HB7.out hb8)
  clear HO7 HX7 HG7 HF7 HW7 HU7 HB7
  go_wp2_with fail
  -- marks over the argument's copy
  refine (markEdgeS_fresh (w3.heap.size + 1) _ _ _ es _ Hm.out HX8.out).mono ?_
  rintro e' w9 ⟨rfl, hf9, hg9⟩
  have HG9 := hid (HG8.out.kept hg9 (.inr (fun h => by have h' : w4.heap.size ≤ w3.heap.size + 1 := (Hq1.out _ h).1; omega)))
  have HF9 := hid (HF8.out.kept hg9 (.inr (fun h => by have h' : w3.heap.size + 1 < w3.heap.size := Hq0.out _ h; omega)))
  have HW9 := hid (HW8.out.kept hg9 (fun h => by have h' := Option.some.inj h; simp at h'))
  have HU9 := hid (HU8.out.kept hg9 (fun h => by have h' := Option.some.inj h; simp at h'; omega))
  have HB9 := hid (HB8.out.grown hg9 HB8.out.size (fun k hk => by have h' := Option.some.inj hk; simp at h'; omega))
  have hx9 := HW9.out.1
  have hy9 := HW9.out.2
  have hu9 := HU9.out.1
  have hv9 := HU9.out.2
  clear hf9 hg9 HX8 HG8 HF8 HW8 HU8 HB8
  go_wp2_with fail
  refine (eqGraph_self _ _ _ _ _ _ L _ HLl.out hl2 HG9.out.sees HF9.out.sees).mono ?_
  rintro e' w10 ⟨rfl, hb10⟩
  have HG10 := hid (HG9.out.on hb10)
  have HF10 := hid (HF9.out.on hb10)
  have HW10 := hid (HW9.out.on hb10)
  have HU10 := hid (HU9.out.on hb10)
  have HB10 := hid (bfrom HB9.out hb10)
  have hu10 := HU10.out.1
  have hv10 := HU10.out.2
  clear HG9 HF9 HW9 HU9 HB9 hx9 hy9 hu9 hv9
  go_wp2_with fail
  -- marks over the answer
  refine (markGraph_fresh w4.heap.size _ _ _ _ L _ Hl1.out HG10.out).mono ?_
  rintro e' w11 ⟨rfl, hf11, hg11⟩
  have HM11 := hid hf11
  have HF11 := hid (HF10.out.kept hg11 (by cases hq : (Value.slice q0 l cap0).ownBlock with
    | none => exact .inl rfl
    | some g => exact .inr (fun h => by have := Hq0.out g hq; have := (Hq1.out g h.symm).1; omega)))
  have HW11 := hid (HW10.out.kept hg11 (fun h => by have := (Hq1.out _ h.symm).1; omega))
  have HU11 := hid (HU10.out.kept hg11 (fun h => by have := (Hq1.out _ h.symm).2; omega))
  have HB11 := hid (HB10.out.grown hg11 HB10.out.size (fun k hk => by have := (Hq1.out _ hk).1; omega))
  have hu11 := HU11.out.1
  have hv11 := HU11.out.2
  clear hf11 hg11 HG10 HF10 HW10 HU10 HB10 hu10 hv10
  go_wp2_with fail
  refine (heldGraph_sees _ _ _ _ _ Hl1.out HM11.out.sees).mono ?_
  rintro e' w12 ⟨rfl, hb12⟩
  have HM12 := hid (HM11.out.on hb12)
  have HF12 := hid (HF11.out.on hb12)
  have HW12 := hid (HW11.out.on hb12)
  have HU12 := hid (HU11.out.on hb12)
  have HB12 := hid (bfrom HB11.out hb12)
  clear HM11 HF11 HW11 HU11 HB11 hu11 hv11
  go_wp2_with fail
  -- once more
  refine (toEdgeS_sees _ _ _ es _ Hn.out Hm.out (Hr.out.on HB12.out)).mono ?_
  rintro e' w13 ⟨rfl, ho13, hb13⟩
  have HO13 := hid ho13
  have HM13 := hid (HM12.out.on hb13)
  have HF13 := hid (HF12.out.on hb13)
  have HW13 := hid (HW12.out.on hb13)
  have HU13 := hid (HU12.out.on hb13)
  have HB13 := hid (bfrom HB12.out hb13)
  clear ho13 HM12 HF12 HW12 HU12 HB12
  go_wp2_with fail
  refine (HI.out _ _ _ HO13.out.sees).mono ?_
  rintro e' w14 ⟨q2, cap2, rfl, hf14, hb14⟩
  have HH14 := hid hf14
  have HM14 := hid (HM13.out.on hb14)
  have HF14 := hid (HF13.out.on hb14)
  have HW14 := hid (HW13.out.on hb14)
  have HU14 := hid (HU13.out.on hb14)
  have HB14 := hid (bfrom HB13.out hb14)
  have hx14 := HW14.out.1
  have hy14 := HW14.out.2
  have hs14 : w3.heap.size < w14.heap.size := HW14.out.lt
  clear hf14 HO13 HM13 HF13 HW13 HU13 HB13
  go_wp2_with fail
  refine (eqGraph_self _ _ _ _ _ _ L _ HLl.out hl2 (HH14.out.sees.on (on_alloc _ _)) (HF14.out.sees.on (on_alloc _ _))).mono ?_
  rintro e' w15 ⟨rfl, hb15⟩
  have HM15 := hid ((HM14.out.on (on_alloc _ _)).on hb15)
  have HU15 := hid ((HU14.out.on (on_alloc _ _)).on hb15)
  have HB15 := hid (bfrom (bfrom HB14.out (on_alloc _ _)) hb15)
  have hu15 := HU15.out.1
  have hv15 := HU15.out.2
  clear HH14 HM14 HF14 HW14 HU14 HB14 hx14 hy14
  go_wp2_with fail
  refine (heldGraph_sees _ _ _ _ _ Hl1.out HM15.out.sees).mono ?_
  rintro e' w16 ⟨rfl, hb16⟩
  have HB16 := hid (bfrom HB15.out hb16)
  go_wp2
  go_ret
  exact ⟨rfl, HB16.out⟩

theorem lawGraphOf_any (s : Int) (p : Option Addr) (n c : Nat) (es : List (Int × Int)) (w : World) (_ : (Lit.int .i64 s).wf = true) (hn : es.length = n) (hle : n ≤ 9223372036854775807) (hr : SeesE w p es) :
    Calls Try.prog 4 #[.int .i64 s, .slice p n c] w fun e' w' => e' = .returned (.bool true) ∧ Below w.heap.size w w' := by
  by_cases h : n ≤ 1048576
  · exact lawGraphOf_small s p n c es w hn h hr
  · exact lawGraphOf_big s p n c w hle (by omega)

end Go.Proofs.Ytngmcfkcpbmnoaa
