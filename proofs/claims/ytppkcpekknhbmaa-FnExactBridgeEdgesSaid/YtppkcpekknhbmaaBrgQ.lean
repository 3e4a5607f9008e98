/- BridgeEdges at any argument, in the model and in the program. -/
import Derived.Test.YtppkcpekknhbmaaBrgP
namespace Go.Proofs.Ytppkcpekknhbmaa
open Go.RowKit Go.Lib

theorem below_pair (n : Nat) (e f : Int) : (∀ i, i < 2 → 0 ≤ eI [e, f] i ∧ eI [e, f] i < (n : Int)) ↔ 0 ≤ e ∧ e < n ∧ 0 ≤ f ∧ f < n := by
  constructor
  · intro h
    have h4 := h 0 (by omega)
    have h5 := h 1 (by omega)
    exact ⟨h4.1, h4.2, h5.1, h5.2⟩
  · rintro ⟨h1, h2, h3, h4⟩ i hi
    rcases (by omega : i = 0 ∨ i = 1) with rfl | rfl
    · exact ⟨h1, h2⟩
    · exact ⟨h3, h4⟩

set_option maxRecDepth 100000 in
set_option maxHeartbeats 2000000 in
theorem iBrg_none (s e f : Int) (p : Option Addr) (n c : Nat) (es : List (Int × Int)) (w : World) (hm : n ≤ 1048576) (hn : es.length = n) (hr : SeesE w p es) (g : ¬ IsG s es)  :
    Calls Try.prog 36 #[.agg #[.int .i64 s, .slice p n c], .int .i64 e, .int .i64 f] w fun e' w' => e' = .returned (.tuple #[.agg #[.int .i64 0, .slice none 0 0], .int .i64 1]) ∧ Below w.heap.size w w' := by
  have Hn := hid hn
  have Hr := hid hr
  have G := hid g

  have HX0 := hid ((Box.new w s p n c 30).on (on_alloc _ (.cells #[.int .i64 0, .slice none 0 0] 30)))
  have HK0 : Hid (GBox ((w.alloc (.cells #[.int .i64 s, .slice p n c] 30)).alloc (.cells #[.int .i64 0, .slice none 0 0] 30)) (w.heap.size + 1) 0 none 0 0) := hid (GBox.new _ _ (by simp))
  have HB0 := hid (bfrom (on_alloc w (.cells #[.int .i64 s, .slice p n c] 30)) (on_alloc _ (.cells #[.int .i64 0, .slice none 0 0] 30)))
  clear hn hr g
  go_enter Try.func36, Try.ntmps36
  go_wp2_with fail
  refine (iIsGraph_any _ _ _ _ es _ hm Hn.out (Hr.out.on HB0.out)).mono ?_
  rw [decide_eq_false G.out]
  rintro e' w2 ⟨rfl, hb2⟩
  have HX2 := hid (HX0.out.on hb2)
  have HK2 := hid (HK0.out.on hb2)
  have HB2 := hid (bfrom HB0.out hb2)
  have hx2 := HX2.out.1
  have hy2 := HX2.out.2
  have hz2' := HX2.out.lt
  have hzk2 := HK2.out.lt
  clear hb2 HX0 HK0
  have HB9 := hid HB2.out
  have HK9 := HK2
  have hra := HK9.out.box.1
  have hrb := HK9.out.box.2
  have hfa := HK9.out.frozen 0
  have hfb := HK9.out.frozen 1
  have hz9 := HK9.out.lt
  go_wp2
  refine bodyPost_ret (v := .tuple #[.agg #[.int .i64 0, .slice none 0 0], .int .i64 1]) (by simp [results, Try.results36, go_sem, hra, hrb]) rfl ⟨rfl, ?_⟩
  exact (HB9.out.setCell (p := ⟨w.heap.size + 1, 0, none⟩) (by show w.heap.size ≤ w.heap.size + 1; omega) _).setCell (p := ⟨w.heap.size + 1, 1, none⟩) (by show w.heap.size ≤ w.heap.size + 1; omega) _

set_option maxRecDepth 100000 in
set_option maxHeartbeats 2000000 in
theorem iBrg_range (s e f : Int) (p : Option Addr) (n c : Nat) (es : List (Int × Int)) (w : World) (hm : n ≤ 1048576) (hn : es.length = n) (hr : SeesE w p es) (g : IsG s es) (h : ¬ (0 ≤ e ∧ e < n ∧ 0 ≤ f ∧ f < n)) :
    Calls Try.prog 36 #[.agg #[.int .i64 s, .slice p n c], .int .i64 e, .int .i64 f] w fun e' w' => e' = .returned (.tuple #[.agg #[.int .i64 0, .slice none 0 0], .int .i64 2]) ∧ Below w.heap.size w w' := by
  have Hn := hid hn
  have Hr := hid hr
  have G := hid g
  have HBel := hid (decide_eq_false (fun h2 => h ((below_pair n e f).1 h2)))
  clear h
  have HX0 := hid ((Box.new w s p n c 30).on (on_alloc _ (.cells #[.int .i64 0, .slice none 0 0] 30)))
  have HK0 : Hid (GBox ((w.alloc (.cells #[.int .i64 s, .slice p n c] 30)).alloc (.cells #[.int .i64 0, .slice none 0 0] 30)) (w.heap.size + 1) 0 none 0 0) := hid (GBox.new _ _ (by simp))
  have HB0 := hid (bfrom (on_alloc w (.cells #[.int .i64 s, .slice p n c] 30)) (on_alloc _ (.cells #[.int .i64 0, .slice none 0 0] 30)))
  clear hn hr g
  go_enter Try.func36, Try.ntmps36
  go_wp2_with fail
  refine (iIsGraph_any _ _ _ _ es _ hm Hn.out (Hr.out.on HB0.out)).mono ?_
  rw [decide_eq_true G.out]
  rintro e' w2 ⟨rfl, hb2⟩
  have HX2 := hid (HX0.out.on hb2)
  have HK2 := hid (HK0.out.on hb2)
  have HB2 := hid (bfrom HB0.out hb2)
  have hx2 := HX2.out.1
  have hy2 := HX2.out.2
  have hz2' := HX2.out.lt
  have hzk2 := HK2.out.lt
  clear hb2 HX0 HK0
  go_wp2_with fail
  refine (iAreBelow_any n w2.heap.size 0 2 2 [e, f] _ rfl (by omega) (reads_two _ _ _ _ _ rfl)).mono ?_
  rw [HBel.out]
  rintro e' w' ⟨rfl, rfl⟩
  obtain ⟨w3, hw3⟩ : ∃ w3, w3 = w2.alloc (.cells #[.int .i64 e, .int .i64 f] 2) := ⟨_, rfl⟩
  rw [← hw3]
  have HB9 := hid (show Below w.heap.size w w3 by rw [hw3]; exact HB2.out.alloc HB2.out.size _)
  have HK9 := hid (show GBox w3 (w.heap.size + 1) 0 none 0 0 by rw [hw3]; exact HK2.out.on (on_alloc _ _))
  have hx3 := ((bcells (show Below w2.heap.size w2 w3 by rw [hw3]; exact on_alloc _ _)).1 _ _ hz2').trans hx2
  have hz3' : w.heap.size < w3.heap.size := by rw [hw3]; simp; omega
  have hra := HK9.out.box.1
  have hrb := HK9.out.box.2
  have hfa := HK9.out.frozen 0
  have hfb := HK9.out.frozen 1
  have hz9 := HK9.out.lt
  clear hw3 hx2 hy2

  go_wp2
  refine bodyPost_ret (v := .tuple #[.agg #[.int .i64 0, .slice none 0 0], .int .i64 2]) (by simp [results, Try.results36, go_sem, hra, hrb]) rfl ⟨rfl, ?_⟩
  exact (HB9.out.setCell (p := ⟨w.heap.size + 1, 0, none⟩) (by show w.heap.size ≤ w.heap.size + 1; omega) _).setCell (p := ⟨w.heap.size + 1, 1, none⟩) (by show w.heap.size ≤ w.heap.size + 1; omega) _

set_option maxRecDepth 100000 in
set_option maxHeartbeats 2000000 in
theorem iBrg_same (s e : Int) (p : Option Addr) (n c : Nat) (es : List (Int × Int)) (w : World) (hm : n ≤ 1048576) (hn : es.length = n) (hr : SeesE w p es) (g : IsG s es) (h : 0 ≤ e ∧ e < n) :
    Calls Try.prog 36 #[.agg #[.int .i64 s, .slice p n c], .int .i64 e, .int .i64 e] w fun e' w' => e' = .returned (.tuple #[.agg #[.int .i64 0, .slice none 0 0], .int .i64 5]) ∧ Below w.heap.size w w' := by
  have Hn := hid hn
  have Hr := hid hr
  have G := hid g
  have HBel := hid (decide_eq_true ((below_pair n e e).2 ⟨h.1, h.2, h.1, h.2⟩))
  clear h
  have HX0 := hid ((Box.new w s p n c 30).on (on_alloc _ (.cells #[.int .i64 0, .slice none 0 0] 30)))
  have HK0 : Hid (GBox ((w.alloc (.cells #[.int .i64 s, .slice p n c] 30)).alloc (.cells #[.int .i64 0, .slice none 0 0] 30)) (w.heap.size + 1) 0 none 0 0) := hid (GBox.new _ _ (by simp))
  have HB0 := hid (bfrom (on_alloc w (.cells #[.int .i64 s, .slice p n c] 30)) (on_alloc _ (.cells #[.int .i64 0, .slice none 0 0] 30)))
  clear hn hr g
  go_enter Try.func36, Try.ntmps36
  go_wp2_with fail
  refine (iIsGraph_any _ _ _ _ es _ hm Hn.out (Hr.out.on HB0.out)).mono ?_
  rw [decide_eq_true G.out]
  rintro e' w2 ⟨rfl, hb2⟩
  have HX2 := hid (HX0.out.on hb2)
  have HK2 := hid (HK0.out.on hb2)
  have HB2 := hid (bfrom HB0.out hb2)
  have hx2 := HX2.out.1
  have hy2 := HX2.out.2
  have hz2' := HX2.out.lt
  have hzk2 := HK2.out.lt
  clear hb2 HX0 HK0
  go_wp2_with fail
  refine (iAreBelow_any n w2.heap.size 0 2 2 [e, e] _ rfl (by omega) (reads_two _ _ _ _ _ rfl)).mono ?_
  rw [HBel.out]
  rintro e' w' ⟨rfl, rfl⟩
  obtain ⟨w3, hw3⟩ : ∃ w3, w3 = w2.alloc (.cells #[.int .i64 e, .int .i64 e] 2) := ⟨_, rfl⟩
  rw [← hw3]
  have HB9 := hid (show Below w.heap.size w w3 by rw [hw3]; exact HB2.out.alloc HB2.out.size _)
  have HK9 := hid (show GBox w3 (w.heap.size + 1) 0 none 0 0 by rw [hw3]; exact HK2.out.on (on_alloc _ _))
  have hx3 := ((bcells (show Below w2.heap.size w2 w3 by rw [hw3]; exact on_alloc _ _)).1 _ _ hz2').trans hx2
  have hz3' : w.heap.size < w3.heap.size := by rw [hw3]; simp; omega
  have hra := HK9.out.box.1
  have hrb := HK9.out.box.2
  have hfa := HK9.out.frozen 0
  have hfb := HK9.out.frozen 1
  have hz9 := HK9.out.lt
  clear hw3 hx2 hy2

  go_wp2
  refine bodyPost_ret (v := .tuple #[.agg #[.int .i64 0, .slice none 0 0], .int .i64 5]) (by simp [results, Try.results36, go_sem, hra, hrb]) rfl ⟨rfl, ?_⟩
  exact (HB9.out.setCell (p := ⟨w.heap.size + 1, 0, none⟩) (by show w.heap.size ≤ w.heap.size + 1; omega) _).setCell (p := ⟨w.heap.size + 1, 1, none⟩) (by show w.heap.size ≤ w.heap.size + 1; omega) _

set_option maxRecDepth 100000 in
set_option maxHeartbeats 2000000 in
theorem iBrg_big (s e f : Int) (p : Option Addr) (n c : Nat) (es : List (Int × Int)) (w : World) (hm : n ≤ 1048576) (hn : es.length = n) (hr : SeesE w p es) (g : IsG s es) (h : 0 ≤ e ∧ e < n ∧ 0 ≤ f ∧ f < n) (hef : ¬ e = f) (h18 : 18 < s) :
    Calls Try.prog 36 #[.agg #[.int .i64 s, .slice p n c], .int .i64 e, .int .i64 f] w fun e' w' => e' = .returned (.tuple #[.agg #[.int .i64 0, .slice none 0 0], .int .i64 3]) ∧ Below w.heap.size w w' := by
  have Hn := hid hn
  have Hr := hid hr
  have G := hid g
  have HBel := hid (decide_eq_true ((below_pair n e f).2 h))
  have hs20 : s ≤ 20 := g.1.1.2.1
  have e1 : IntKind.i64.wrap (s + 2) = s + 2 := IntWalk.i64_in _ (by omega)
  have t1 : (e == f) = false := by simpa using hef
  have t2 : decide (20 < s + 2) = true := by simp; omega
  clear h
  have HX0 := hid ((Box.new w s p n c 30).on (on_alloc _ (.cells #[.int .i64 0, .slice none 0 0] 30)))
  have HK0 : Hid (GBox ((w.alloc (.cells #[.int .i64 s, .slice p n c] 30)).alloc (.cells #[.int .i64 0, .slice none 0 0] 30)) (w.heap.size + 1) 0 none 0 0) := hid (GBox.new _ _ (by simp))
  have HB0 := hid (bfrom (on_alloc w (.cells #[.int .i64 s, .slice p n c] 30)) (on_alloc _ (.cells #[.int .i64 0, .slice none 0 0] 30)))
  clear hn hr g
  go_enter Try.func36, Try.ntmps36
  go_wp2_with fail
  refine (iIsGraph_any _ _ _ _ es _ hm Hn.out (Hr.out.on HB0.out)).mono ?_
  rw [decide_eq_true G.out]
  rintro e' w2 ⟨rfl, hb2⟩
  have HX2 := hid (HX0.out.on hb2)
  have HK2 := hid (HK0.out.on hb2)
  have HB2 := hid (bfrom HB0.out hb2)
  have hx2 := HX2.out.1
  have hy2 := HX2.out.2
  have hz2' := HX2.out.lt
  have hzk2 := HK2.out.lt
  clear hb2 HX0 HK0
  go_wp2_with fail
  refine (iAreBelow_any n w2.heap.size 0 2 2 [e, f] _ rfl (by omega) (reads_two _ _ _ _ _ rfl)).mono ?_
  rw [HBel.out]
  rintro e' w' ⟨rfl, rfl⟩
  obtain ⟨w3, hw3⟩ : ∃ w3, w3 = w2.alloc (.cells #[.int .i64 e, .int .i64 f] 2) := ⟨_, rfl⟩
  rw [← hw3]
  have HB9 := hid (show Below w.heap.size w w3 by rw [hw3]; exact HB2.out.alloc HB2.out.size _)
  have HK9 := hid (show GBox w3 (w.heap.size + 1) 0 none 0 0 by rw [hw3]; exact HK2.out.on (on_alloc _ _))
  have hx3 := ((bcells (show Below w2.heap.size w2 w3 by rw [hw3]; exact on_alloc _ _)).1 _ _ hz2').trans hx2
  have hz3' : w.heap.size < w3.heap.size := by rw [hw3]; simp; omega
  have hra := HK9.out.box.1
  have hrb := HK9.out.box.2
  have hfa := HK9.out.frozen 0
  have hfb := HK9.out.frozen 1
  have hz9 := HK9.out.lt
  clear hw3 hx2 hy2

  go_wp2
  refine bodyPost_ret (v := .tuple #[.agg #[.int .i64 0, .slice none 0 0], .int .i64 3]) (by simp [results, Try.results36, go_sem, hra, hrb]) rfl ⟨rfl, ?_⟩
  exact (HB9.out.setCell (p := ⟨w.heap.size + 1, 0, none⟩) (by show w.heap.size ≤ w.heap.size + 1; omega) _).setCell (p := ⟨w.heap.size + 1, 1, none⟩) (by show w.heap.size ≤ w.heap.size + 1; omega) _

theorem sBridgeEdges_any (s : Int) (p : Option Addr) (n c : Nat) (es : List (Int × Int)) (e f : Int) (w : World) (hm : n ≤ 1048576) (hn : es.length = n) (hr : SeesE w p es) :
    Calls Try.prog 35 #[.agg #[.int .i64 s, .slice p n c], .int .i64 e, .int .i64 f] w fun e' w' => ∃ q cap, e' = .returned (.tuple #[.agg #[.int .i64 (fBridgeEdges s es e f).1, .slice q (fBridgeEdges s es e f).2.1.length cap], .int .i64 (fBridgeEdges s es e f).2.2]) ∧ FreshE w.heap.size w' q (fBridgeEdges s es e f).2.1.length cap (fBridgeEdges s es e f).2.1 ∧ Below w.heap.size w w' := by
  unfold fBridgeEdges
  by_cases g : IsG s es
  · rw [if_pos g]
    by_cases h : 0 ≤ e ∧ e < es.length ∧ 0 ≤ f ∧ f < es.length
    · rw [if_pos h]
      by_cases hef : e = f
      · rw [if_pos hef]
        subst hef
        exact (sBrg_same s e p n c es w hm hn hr (by rw [edgs_two, if_pos g, if_pos h])).mono fun e' w' ⟨he, hb⟩ => ⟨none, 0, he, FreshE.nil _ _, hb⟩
      · rw [if_neg hef]
        by_cases h18 : 18 < s
        · rw [if_pos h18]
          exact (sBrg_big s e f p n c es w hm hn hr (by rw [edgs_two, if_pos g, if_pos h]) hef h18 g.1.1.2.1).mono fun e' w' ⟨he, hb⟩ => ⟨none, 0, he, FreshE.nil _ _, hb⟩
        · rw [if_neg h18]
          obtain ⟨E, rfl⟩ : ∃ E : Nat, e = E := ⟨_, (Int.toNat_of_nonneg h.1).symm⟩
          obtain ⟨F, rfl⟩ : ∃ F : Nat, f = F := ⟨_, (Int.toNat_of_nonneg h.2.2.1).symm⟩
          obtain ⟨N, rfl⟩ : ∃ N : Nat, s = N := ⟨_, (Int.toNat_of_nonneg (by have := g.1.1.1; omega)).symm⟩
          obtain ⟨b, off, rfl, rd⟩ := isG_sees g hr
          have hll : (sortE (brU N es E F es.length)).length = n + 3 := by rw [sortE_length, brU_len, if_pos (by omega), if_pos ⟨by omega, by omega⟩]; omega
          dsimp only
          simp only [Int.toNat_natCast]
          rw [hll]
          have h9 := sBrg_yes N b off n c E F es w hn rd g (by omega) (by omega) (by omega) (by omega)
          rw [hn]
          exact h9
    · rw [if_neg h]
      exact (sBrg_code s e f 2 p n c es w hm hn hr (by rw [edgs_two, if_pos g, if_neg h]) (by decide)).mono fun e' w' ⟨he, hb⟩ => ⟨none, 0, he, FreshE.nil _ _, hb⟩
  · rw [if_neg g]
    exact (sBrg_code s e f 1 p n c es w hm hn hr (by rw [edgs_two, if_neg g]) (by decide)).mono fun e' w' ⟨he, hb⟩ => ⟨none, 0, he, FreshE.nil _ _, hb⟩

theorem iBridgeEdges_any (s : Int) (p : Option Addr) (n c : Nat) (es : List (Int × Int)) (e f : Int) (w : World) (hm : n ≤ 1048576) (hn : es.length = n) (hr : SeesE w p es) :
    Calls Try.prog 36 #[.agg #[.int .i64 s, .slice p n c], .int .i64 e, .int .i64 f] w fun e' w' => ∃ q cap, e' = .returned (.tuple #[.agg #[.int .i64 (fBridgeEdges s es e f).1, .slice q (fBridgeEdges s es e f).2.1.length cap], .int .i64 (fBridgeEdges s es e f).2.2]) ∧ FreshE w.heap.size w' q (fBridgeEdges s es e f).2.1.length cap (fBridgeEdges s es e f).2.1 ∧ Below w.heap.size w w' := by
  unfold fBridgeEdges
  by_cases g : IsG s es
  · rw [if_pos g]
    by_cases h : 0 ≤ e ∧ e < es.length ∧ 0 ≤ f ∧ f < es.length
    · rw [if_pos h]
      by_cases hef : e = f
      · rw [if_pos hef]
        subst hef
        exact (iBrg_same s e p n c es w hm hn hr g (by omega)).mono fun e' w' ⟨he, hb⟩ => ⟨none, 0, he, FreshE.nil _ _, hb⟩
      · rw [if_neg hef]
        by_cases h18 : 18 < s
        · rw [if_pos h18]
          exact (iBrg_big s e f p n c es w hm hn hr g (by omega) hef h18).mono fun e' w' ⟨he, hb⟩ => ⟨none, 0, he, FreshE.nil _ _, hb⟩
        · rw [if_neg h18]
          obtain ⟨E, rfl⟩ : ∃ E : Nat, e = E := ⟨_, (Int.toNat_of_nonneg h.1).symm⟩
          obtain ⟨F, rfl⟩ : ∃ F : Nat, f = F := ⟨_, (Int.toNat_of_nonneg h.2.2.1).symm⟩
          obtain ⟨N, rfl⟩ : ∃ N : Nat, s = N := ⟨_, (Int.toNat_of_nonneg (by have := g.1.1.1; omega)).symm⟩
          obtain ⟨b, off, rfl, rd⟩ := isG_sees g hr
          have hll : (sortE (brU N es E F es.length)).length = n + 3 := by rw [sortE_length, brU_len, if_pos (by omega), if_pos ⟨by omega, by omega⟩]; omega
          dsimp only
          simp only [Int.toNat_natCast]
          rw [hll]
          have h9 := iBrg_yes N b off n c E F es w hn rd g (by omega) (by omega) (by omega) (by omega)
          rw [hn]
          exact h9
    · rw [if_neg h]
      exact (iBrg_range s e f p n c es w hm hn hr g (fun h2 => h (by omega))).mono fun e' w' ⟨he, hb⟩ => ⟨none, 0, he, FreshE.nil _ _, hb⟩
  · rw [if_neg g]
    exact (iBrg_none s e f p n c es w hm hn hr g).mono fun e' w' ⟨he, hb⟩ => ⟨none, 0, he, FreshE.nil _ _, hb⟩

end Go.Proofs.Ytppkcpekknhbmaa
