/- AreClose at any argument, in the model and in the program. -/
import Derived.Test.YtonlpihbpbnnmaaNearS
import Derived.Test.YtonlpihbpbnnmaaNearI
import Derived.Test.YtonlpihbpbnnmaaImplG
import Derived.Test.YtonlpihbpbnnmaaBelow
import Derived.StillTailTactics
namespace Go.Proofs.Ytonlpihbpbnnmaa
open Go.RowKit

theorem iBelow2_any (N e f : Int) (g c : Nat) (w : World) (u : Bool) (hu : u = true ↔ (0 ≤ e ∧ e < N) ∧ (0 ≤ f ∧ f < N)) (hr : ReadsI w g 0 [e, f]) :
    Calls Try.prog 57 #[.int .i64 N, .slice (some ⟨g, 0, none⟩) 2 c] w fun e' w' => e' = .returned (.bool u) ∧ w' = w := by
  refine (iAreBelow_any N g 0 2 c [e, f] w rfl (by omega) hr).mono ?_
  rintro e' w' ⟨rfl, rfl⟩
  refine ⟨?_, rfl⟩
  congr 2
  rw [Bool.eq_iff_iff, decide_eq_true_iff, hu]
  constructor
  · intro h
    exact ⟨h 0 (by omega), h 1 (by omega)⟩
  · intro h i hi
    rcases (by omega : i = 0 ∨ i = 1) with rfl | rfl
    · exact h.1
    · exact h.2


set_option maxRecDepth 100000 in
set_option maxHeartbeats 4000000 in
theorem sAreClose_none (s e f : Int) (p : Option Addr) (n c : Nat) (es : List (Int × Int)) (w : World) (hm : n ≤ 1048576) (hn : es.length = n) (hr : SeesE w p es) (g : ¬ IsG s es) :
    Calls Try.prog 16 #[.agg #[.int .i64 s, .slice p n c], .int .i64 e, .int .i64 f] w fun e' w' => e' = .returned (.tuple #[.bool false, .int .i64 1]) ∧ Below w.heap.size w w' := by
  have Hn := hid hn
  have Hr := hid hr
  have G := hid g
  clear hn hr g
  go_enter Try.func16, Try.ntmps16
  go_wp2_with fail
  refine (sIs_any _ _ _ _ es _ (by omega) Hn.out (Hr.out.on (on_alloc _ _))).mono ?_
  rw [decide_eq_false G.out]
  rintro e' w2 ⟨rfl, hb2⟩
  have HB2 := hid (bfrom (w := w) (on_alloc _ _) hb2)
  clear hb2
  go_wp2
  go_ret2
  exact ⟨rfl, HB2.out⟩


set_option maxRecDepth 100000 in
set_option maxHeartbeats 4000000 in
theorem iAreClose_none (s e f : Int) (p : Option Addr) (n c : Nat) (es : List (Int × Int)) (w : World) (hm : n ≤ 1048576) (hn : es.length = n) (hr : SeesE w p es) (g : ¬ IsG s es) :
    Calls Try.prog 18 #[.agg #[.int .i64 s, .slice p n c], .int .i64 e, .int .i64 f] w fun e' w' => e' = .returned (.tuple #[.bool false, .int .i64 1]) ∧ Below w.heap.size w w' := by
  have Hn := hid hn
  have Hr := hid hr
  have G := hid g
  clear hn hr g
  go_enter Try.func18, Try.ntmps18
  go_wp2_with fail
  refine (iIsGraph_any _ _ _ _ es _ hm Hn.out (Hr.out.on (on_alloc _ _))).mono ?_
  rw [decide_eq_false G.out]
  rintro e' w2 ⟨rfl, hb2⟩
  have HB2 := hid (bfrom (w := w) (on_alloc _ _) hb2)
  clear hb2
  go_wp2
  go_ret2
  exact ⟨rfl, HB2.out⟩


set_option maxRecDepth 100000 in
set_option maxHeartbeats 4000000 in
theorem sAreClose_e (s : Int) (e f : Int) (b off n c : Nat) (es : List (Int × Int)) (w : World) (hn : es.length = n) (hr : ReadsE w b off es) (g : IsG s es) (he : ¬ (0 ≤ e ∧ e < n)) :
    Calls Try.prog 16 #[.agg #[.int .i64 s, .slice (some ⟨b, off, none⟩) n c], .int .i64 e, .int .i64 f] w fun e' w' => e' = .returned (.tuple #[.bool false, .int .i64 2]) ∧ Below w.heap.size w w' := by
  have hn30 : n ≤ 30 := by have := isG_len g; omega
  have h1n : 1 ≤ n := by have := g.1.1.2.2.2; have := g.1.1.1; omega
  have Hn := hid hn
  have Hr := hid hr
  have G := hid g
  clear hn hr g
  have He := hid (show e < 0 ∨ (n : Int) - 1 < e by omega)
  clear he
  go_enter Try.func16, Try.ntmps16
  go_wp2_with fail
  refine (sIs_any _ _ _ _ es _ (by omega) Hn.out (SeesE.on (.inr ⟨b, off, rfl, Hr.out⟩) (on_alloc _ _))).mono ?_
  rw [decide_eq_true G.out]
  rintro e' w2 ⟨rfl, hb2⟩
  have HB2 := hid (bfrom (w := w) (on_alloc _ _) hb2)
  have hX2 := (Box.new w s (some ⟨b, off, none⟩) n c 30).on hb2
  have HX2 := hid hX2
  have hx2 := hX2.1
  have hy2 := hX2.2
  have hz2 := hX2.lt
  clear hX2 hb2
  go_wp2_with (go_at_call 53; refine (sIn_no _ _ _ _ He.out).mono ?_; rintro e' w' ⟨rfl, rfl⟩)
  go_ret2
  exact ⟨rfl, HB2.out⟩


set_option maxRecDepth 100000 in
set_option maxHeartbeats 4000000 in
theorem sAreClose_f (s : Int) (e f : Int) (b off n c : Nat) (es : List (Int × Int)) (w : World) (hn : es.length = n) (hr : ReadsE w b off es) (g : IsG s es) (he : 0 ≤ e ∧ e < n) (hf : ¬ (0 ≤ f ∧ f < n)) :
    Calls Try.prog 16 #[.agg #[.int .i64 s, .slice (some ⟨b, off, none⟩) n c], .int .i64 e, .int .i64 f] w fun e' w' => e' = .returned (.tuple #[.bool false, .int .i64 2]) ∧ Below w.heap.size w w' := by
  have hn30 : n ≤ 30 := by have := isG_len g; omega
  have h1n : 1 ≤ n := by have := g.1.1.2.2.2; have := g.1.1.1; omega
  have Hn := hid hn
  have Hr := hid hr
  have G := hid g
  clear hn hr g
  have He := hid (show 0 ≤ e ∧ e ≤ (n : Int) - 1 by omega)
  have Hf := hid (show f < 0 ∨ (n : Int) - 1 < f by omega)
  clear he hf
  go_enter Try.func16, Try.ntmps16
  go_wp2_with fail
  refine (sIs_any _ _ _ _ es _ (by omega) Hn.out (SeesE.on (.inr ⟨b, off, rfl, Hr.out⟩) (on_alloc _ _))).mono ?_
  rw [decide_eq_true G.out]
  rintro e' w2 ⟨rfl, hb2⟩
  have HB2 := hid (bfrom (w := w) (on_alloc _ _) hb2)
  have hX2 := (Box.new w s (some ⟨b, off, none⟩) n c 30).on hb2
  have HX2 := hid hX2
  have hx2 := hX2.1
  have hy2 := hX2.2
  have hz2 := hX2.lt
  clear hX2 hb2
  go_wp2_with (first | (go_at_call_of 53 e; refine (sIn_yes _ _ _ _ He.out).mono ?_; rintro e' w' ⟨rfl, rfl⟩) | (go_at_call_of 53 f; refine (sIn_no _ _ _ _ Hf.out).mono ?_; rintro e' w' ⟨rfl, rfl⟩))
  go_ret2
  exact ⟨rfl, HB2.out⟩


set_option maxRecDepth 100000 in
set_option maxHeartbeats 4000000 in
theorem sAreClose_same (s : Int) (e f : Int) (b off n c : Nat) (es : List (Int × Int)) (w : World) (hn : es.length = n) (hr : ReadsE w b off es) (g : IsG s es) (he : 0 ≤ e ∧ e < n) (hef : e = f) :
    Calls Try.prog 16 #[.agg #[.int .i64 s, .slice (some ⟨b, off, none⟩) n c], .int .i64 e, .int .i64 f] w fun e' w' => e' = .returned (.tuple #[.bool false, .int .i64 2]) ∧ Below w.heap.size w w' := by
  have hn30 : n ≤ 30 := by have := isG_len g; omega
  have h1n : 1 ≤ n := by have := g.1.1.2.2.2; have := g.1.1.1; omega
  have Hn := hid hn
  have Hr := hid hr
  have G := hid g
  clear hn hr g
  subst hef
  have He := hid (show 0 ≤ e ∧ e ≤ (n : Int) - 1 by omega)
  clear he
  go_enter Try.func16, Try.ntmps16
  go_wp2_with fail
  refine (sIs_any _ _ _ _ es _ (by omega) Hn.out (SeesE.on (.inr ⟨b, off, rfl, Hr.out⟩) (on_alloc _ _))).mono ?_
  rw [decide_eq_true G.out]
  rintro e' w2 ⟨rfl, hb2⟩
  have HB2 := hid (bfrom (w := w) (on_alloc _ _) hb2)
  have hX2 := (Box.new w s (some ⟨b, off, none⟩) n c 30).on hb2
  have HX2 := hid hX2
  have hx2 := hX2.1
  have hy2 := hX2.2
  have hz2 := hX2.lt
  clear hX2 hb2
  go_wp2_with (go_at_call 53; refine (sIn_yes _ _ _ _ He.out).mono ?_; rintro e' w' ⟨rfl, rfl⟩)
  go_ret2
  exact ⟨rfl, HB2.out⟩


set_option maxRecDepth 100000 in
set_option maxHeartbeats 4000000 in
theorem sAreClose_yes (s : Int) (E F : Nat) (b off n c : Nat) (es : List (Int × Int)) (w : World) (hn : es.length = n) (hr : ReadsE w b off es) (g : IsG s es) (hE : E < n) (hF : F < n) (hef : E ≠ F) :
    Calls Try.prog 16 #[.agg #[.int .i64 s, .slice (some ⟨b, off, none⟩) n c], .int .i64 E, .int .i64 F] w fun e' w' => e' = .returned (.tuple #[.bool (closeB es E F), .int .i64 0]) ∧ Below w.heap.size w w' := by
  have hn30 : n ≤ 30 := by have := isG_len g; omega
  have h1n : 1 ≤ n := by have := g.1.1.2.2.2; have := g.1.1.1; omega
  have Hn := hid hn
  have Hr := hid hr
  have G := hid g
  clear hn hr g
  have He := hid (show (0 : Int) ≤ (E : Int) ∧ (E : Int) ≤ (n : Int) - 1 by omega)
  have Hf := hid (show (0 : Int) ≤ (F : Int) ∧ (F : Int) ≤ (n : Int) - 1 by omega)
  have hne : ((E : Int) == (F : Int)) = false := by simp; omega
  clear hef
  go_enter Try.func16, Try.ntmps16
  go_wp2_with fail
  refine (sIs_any _ _ _ _ es _ (by omega) Hn.out (SeesE.on (.inr ⟨b, off, rfl, Hr.out⟩) (on_alloc _ _))).mono ?_
  rw [decide_eq_true G.out]
  rintro e' w2 ⟨rfl, hb2⟩
  have HB2 := hid (bfrom (w := w) (on_alloc _ _) hb2)
  have hX2 := (Box.new w s (some ⟨b, off, none⟩) n c 30).on hb2
  have HX2 := hid hX2
  have hx2 := hX2.1
  have hy2 := hX2.2
  have hz2 := hX2.lt
  clear hX2 hb2
  go_wp2_with (first | (go_at_call_of 53 (E : Int); refine (sIn_yes _ _ _ _ He.out).mono ?_; rintro e' w' ⟨rfl, rfl⟩) | (go_at_call_of 53 (F : Int); refine (sIn_yes _ _ _ _ Hf.out).mono ?_; rintro e' w' ⟨rfl, rfl⟩) | fail)
  refine (sClose_any s b off n c E F es _ Hn.out hn30 (Hr.out.on HB2.out) hE hF).mono ?_
  rintro e' w3 ⟨rfl, hb3⟩
  have HB3 := hid (bfrom HB2.out hb3)
  clear hb3
  go_wp2
  go_ret2
  exact ⟨rfl, HB3.out⟩


set_option maxRecDepth 100000 in
set_option maxHeartbeats 4000000 in
theorem iAreClose_out (s : Int) (e f : Int) (b off n c : Nat) (es : List (Int × Int)) (w : World) (hn : es.length = n) (hr : ReadsE w b off es) (g : IsG s es) (he : ¬ ((0 ≤ e ∧ e < n) ∧ (0 ≤ f ∧ f < n))) :
    Calls Try.prog 18 #[.agg #[.int .i64 s, .slice (some ⟨b, off, none⟩) n c], .int .i64 e, .int .i64 f] w fun e' w' => e' = .returned (.tuple #[.bool false, .int .i64 2]) ∧ Below w.heap.size w w' := by
  have hn30 : n ≤ 30 := by have := isG_len g; omega
  have h1n : 1 ≤ n := by have := g.1.1.2.2.2; have := g.1.1.1; omega
  have Hn := hid hn
  have Hr := hid hr
  have G := hid g
  clear hn hr g
  have HU := hid he
  clear he
  go_enter Try.func18, Try.ntmps18
  go_wp2_with fail
  refine (iIsGraph_any _ _ _ _ es _ (by omega) Hn.out (SeesE.on (.inr ⟨b, off, rfl, Hr.out⟩) (on_alloc _ _))).mono ?_
  rw [decide_eq_true G.out]
  rintro e' w2 ⟨rfl, hb2⟩
  have HB2 := hid (bfrom (w := w) (on_alloc _ _) hb2)
  have hX2 := (Box.new w s (some ⟨b, off, none⟩) n c 30).on hb2
  have HX2 := hid hX2
  have hx2 := hX2.1
  have hy2 := hX2.2
  have hz2 := hX2.lt
  clear hX2 hb2
  go_wp2_with fail
  refine (iBelow2_any n e f _ _ _ false ⟨fun h => (by cases h), fun h => absurd h HU.out⟩ (readsI_two (heap_alloc_new w2 _))).mono ?_
  rintro e' w3 ⟨rfl, rfl⟩
  go_wp2
  go_ret2
  exact ⟨rfl, by first | exact HB2.out | (have := HB2.out; go_grown)⟩


set_option maxRecDepth 100000 in
set_option maxHeartbeats 4000000 in
theorem iAreClose_same (s : Int) (e f : Int) (b off n c : Nat) (es : List (Int × Int)) (w : World) (hn : es.length = n) (hr : ReadsE w b off es) (g : IsG s es) (he : 0 ≤ e ∧ e < n) (hef : e = f) :
    Calls Try.prog 18 #[.agg #[.int .i64 s, .slice (some ⟨b, off, none⟩) n c], .int .i64 e, .int .i64 f] w fun e' w' => e' = .returned (.tuple #[.bool false, .int .i64 2]) ∧ Below w.heap.size w w' := by
  have hn30 : n ≤ 30 := by have := isG_len g; omega
  have h1n : 1 ≤ n := by have := g.1.1.2.2.2; have := g.1.1.1; omega
  have Hn := hid hn
  have Hr := hid hr
  have G := hid g
  clear hn hr g
  subst hef
  have HU := hid (And.intro he he)
  clear he
  go_enter Try.func18, Try.ntmps18
  go_wp2_with fail
  refine (iIsGraph_any _ _ _ _ es _ (by omega) Hn.out (SeesE.on (.inr ⟨b, off, rfl, Hr.out⟩) (on_alloc _ _))).mono ?_
  rw [decide_eq_true G.out]
  rintro e' w2 ⟨rfl, hb2⟩
  have HB2 := hid (bfrom (w := w) (on_alloc _ _) hb2)
  have hX2 := (Box.new w s (some ⟨b, off, none⟩) n c 30).on hb2
  have HX2 := hid hX2
  have hx2 := hX2.1
  have hy2 := hX2.2
  have hz2 := hX2.lt
  clear hX2 hb2
  go_wp2_with fail
  refine (iBelow2_any n e e _ _ _ true ⟨fun _ => HU.out, fun _ => rfl⟩ (readsI_two (heap_alloc_new w2 _))).mono ?_
  rintro e' w3 ⟨rfl, rfl⟩
  go_wp2
  go_ret2
  exact ⟨rfl, by first | exact HB2.out | (have := HB2.out; go_grown)⟩


set_option maxRecDepth 100000 in
set_option maxHeartbeats 4000000 in
theorem iAreClose_yes (s : Int) (E F : Nat) (b off n c : Nat) (es : List (Int × Int)) (w : World) (hn : es.length = n) (hr : ReadsE w b off es) (g : IsG s es) (hE : E < n) (hF : F < n) (hef : E ≠ F) :
    Calls Try.prog 18 #[.agg #[.int .i64 s, .slice (some ⟨b, off, none⟩) n c], .int .i64 E, .int .i64 F] w fun e' w' => e' = .returned (.tuple #[.bool (closeB es E F), .int .i64 0]) ∧ Below w.heap.size w w' := by
  have hn30 : n ≤ 30 := by have := isG_len g; omega
  have h1n : 1 ≤ n := by have := g.1.1.2.2.2; have := g.1.1.1; omega
  have Hn := hid hn
  have Hr := hid hr
  have G := hid g
  clear hn hr g
  have HU := hid (show (0 ≤ (E : Int) ∧ (E : Int) < (n : Int)) ∧ (0 ≤ (F : Int) ∧ (F : Int) < (n : Int)) by omega)
  have hne : ((E : Int) == (F : Int)) = false := by simp; omega
  have hE' : (E : Int) < (n : Int) := by omega
  have hF' : (F : Int) < (n : Int) := by omega
  clear hef
  go_enter Try.func18, Try.ntmps18
  go_wp2_with fail
  refine (iIsGraph_any _ _ _ _ es _ (by omega) Hn.out (SeesE.on (.inr ⟨b, off, rfl, Hr.out⟩) (on_alloc _ _))).mono ?_
  rw [decide_eq_true G.out]
  rintro e' w2 ⟨rfl, hb2⟩
  have HB2 := hid (bfrom (w := w) (on_alloc _ _) hb2)
  have hX2 := (Box.new w s (some ⟨b, off, none⟩) n c 30).on hb2
  have HX2 := hid hX2
  have hx2 := hX2.1
  have hy2 := hX2.2
  have hz2 := hX2.lt
  clear hX2 hb2
  go_wp2_with fail
  refine (iBelow2_any n (E : Int) (F : Int) _ _ _ true ⟨fun _ => HU.out, fun _ => rfl⟩ (readsI_two (heap_alloc_new w2 _))).mono ?_
  rintro e' w3 ⟨rfl, rfl⟩
  obtain ⟨w4, hw4⟩ : ∃ w4, w4 = w2.alloc (.cells #[.int .i64 E, .int .i64 F] 2) := ⟨_, rfl⟩
  rw [← hw4]
  have HB4 := hid (show Below w.heap.size w w4 by rw [hw4]; exact bfrom HB2.out (on_alloc _ _))
  have hX4 := show Box w4 w.heap.size s (some ⟨b, off, none⟩) n c by rw [hw4]; exact HX2.out.on (on_alloc _ _)
  have hx4 := hX4.1
  have hy4 := hX4.2
  have hz4 := hX4.lt
  have hbl : b < w4.heap.size := by have := reads_lt Hr.out (by have := Hn.out; omega); have := HB4.out.size; omega
  obtain ⟨k1, k2⟩ := (Hr.out.on HB4.out) E (by have := Hn.out; omega)
  obtain ⟨k3, k4⟩ := (Hr.out.on HB4.out) F (by have := Hn.out; omega)
  obtain ⟨x, hx⟩ : ∃ x, eA es E = x := ⟨_, rfl⟩
  obtain ⟨y, hy⟩ : ∃ y, eB es E = y := ⟨_, rfl⟩
  obtain ⟨z, hz⟩ : ∃ z, eA es F = z := ⟨_, rfl⟩
  obtain ⟨t, ht⟩ : ∃ t, eB es F = t := ⟨_, rfl⟩
  rw [hx] at k1
  rw [hy] at k2
  rw [hz] at k3
  rw [ht] at k4
  have HXY := hid (And.intro (And.intro hx.symm hy.symm) (And.intro hz.symm ht.symm))
  clear hX4 hw4 hx2 hy2 hx hy hz ht
  go_wp2
  go_still_tail 11, (by kernel_rfl)
  go_wp2_with fail
  refine (iAreClose2_any s b off n c E F es _ Hn.out hn30 (Hr.out.on (bfrom HB4.out (Below.refl _ _).drew)) x y z t HXY.out.1 HXY.out.2 h1n).mono ?_
  rintro e' w5 ⟨rfl, hb5⟩
  have HB5 := hid (show Below w.heap.size w w5 from bfrom HB4.out ⟨hb5.os, hb5.tape, hb5.output, hb5.size, hb5.block⟩)
  clear hb5
  go_wp2
  go_ret2
  exact ⟨rfl, HB5.out⟩


theorem sAreClose_any (s : Int) (p : Option Addr) (n c : Nat) (es : List (Int × Int)) (e f : Int) (w : World) (hm : n ≤ 1048576) (hn : es.length = n) (hr : SeesE w p es) :
    Calls Try.prog 16 #[.agg #[.int .i64 s, .slice p n c], .int .i64 e, .int .i64 f] w fun e' w' => e' = .returned (.tuple #[.bool (fAreClose s es e f).1, .int .i64 (fAreClose s es e f).2]) ∧ Below w.heap.size w w' := by
  unfold fAreClose
  by_cases g : IsG s es
  · rw [if_pos g]
    obtain ⟨b, off, rfl, rd⟩ := isG_sees g hr
    by_cases h : ((0 ≤ e ∧ e < es.length) ∧ (0 ≤ f ∧ f < es.length)) ∧ e ≠ f
    · rw [if_pos h]
      obtain ⟨E, rfl⟩ : ∃ E : Nat, e = E := ⟨_, (Int.toNat_of_nonneg h.1.1.1).symm⟩
      obtain ⟨F, rfl⟩ : ∃ F : Nat, f = F := ⟨_, (Int.toNat_of_nonneg h.1.2.1).symm⟩
      rw [Int.toNat_natCast, Int.toNat_natCast]
      exact sAreClose_yes s E F b off n c es w hn rd g (by have := h.1.1.2; omega) (by have := h.1.2.2; omega) (fun q => h.2 (by rw [q]))
    · rw [if_neg h]
      · skip
        by_cases h1 : 0 ≤ e ∧ e < n
        · by_cases h2 : 0 ≤ f ∧ f < n
          · exact sAreClose_same s e f b off n c es w hn rd g h1 (by
              by_cases h3 : e = f
              · exact h3
              · exact absurd ⟨⟨by rw [hn]; exact h1, by rw [hn]; exact h2⟩, h3⟩ h)
          · exact sAreClose_f s e f b off n c es w hn rd g h1 h2
        · exact sAreClose_e s e f b off n c es w hn rd g h1
  · rw [if_neg g]
    exact sAreClose_none s e f p n c es w hm hn hr g


theorem iAreClose_any (s : Int) (p : Option Addr) (n c : Nat) (es : List (Int × Int)) (e f : Int) (w : World) (hm : n ≤ 1048576) (hn : es.length = n) (hr : SeesE w p es) :
    Calls Try.prog 18 #[.agg #[.int .i64 s, .slice p n c], .int .i64 e, .int .i64 f] w fun e' w' => e' = .returned (.tuple #[.bool (fAreClose s es e f).1, .int .i64 (fAreClose s es e f).2]) ∧ Below w.heap.size w w' := by
  unfold fAreClose
  by_cases g : IsG s es
  · rw [if_pos g]
    obtain ⟨b, off, rfl, rd⟩ := isG_sees g hr
    by_cases h : ((0 ≤ e ∧ e < es.length) ∧ (0 ≤ f ∧ f < es.length)) ∧ e ≠ f
    · rw [if_pos h]
      obtain ⟨E, rfl⟩ : ∃ E : Nat, e = E := ⟨_, (Int.toNat_of_nonneg h.1.1.1).symm⟩
      obtain ⟨F, rfl⟩ : ∃ F : Nat, f = F := ⟨_, (Int.toNat_of_nonneg h.1.2.1).symm⟩
      rw [Int.toNat_natCast, Int.toNat_natCast]
      exact iAreClose_yes s E F b off n c es w hn rd g (by have := h.1.1.2; omega) (by have := h.1.2.2; omega) (fun q => h.2 (by rw [q]))
    · rw [if_neg h]
      · skip
        by_cases h1 : (0 ≤ e ∧ e < n) ∧ (0 ≤ f ∧ f < n)
        · exact iAreClose_same s e f b off n c es w hn rd g h1.1 (by
            by_cases h3 : e = f
            · exact h3
            · exact absurd ⟨by rw [hn]; exact h1, h3⟩ h)
        · exact iAreClose_out s e f b off n c es w hn rd g h1
  · rw [if_neg g]
    exact iAreClose_none s e f p n c es w hm hn hr g


end Go.Proofs.Ytonlpihbpbnnmaa
