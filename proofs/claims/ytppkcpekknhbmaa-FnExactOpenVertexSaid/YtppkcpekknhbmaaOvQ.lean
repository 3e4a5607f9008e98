/- OpenVertex at any argument, in the model and in the program. -/
import Derived.Test.YtppkcpekknhbmaaOvS
import Derived.Test.YtppkcpekknhbmaaOvI
namespace Go.Proofs.Ytppkcpekknhbmaa
open Go.RowKit Go.Lib

set_option maxRecDepth 100000 in
set_option maxHeartbeats 2000000 in
theorem iOv_none (s v : Int) (p : Option Addr) (n c : Nat) (es : List (Int × Int)) (w : World) (hm : n ≤ 1048576) (hn : es.length = n) (hr : SeesE w p es) (g : ¬ IsG s es) :
    Calls Try.prog 34 #[.agg #[.int .i64 s, .slice p n c], .int .i64 v] w fun e' w' => e' = .returned (.tuple #[.agg #[.int .i64 0, .slice none 0 0], .int .i64 1]) ∧ Below w.heap.size w w' := by
  have Hn := hid hn
  have Hr := hid hr
  have G := hid g

  have HX0 := hid ((Box.new w s p n c 30).on (on_alloc _ (.cells #[.int .i64 0, .slice none 0 0] 30)))
  have HK0 : Hid (GBox ((w.alloc (.cells #[.int .i64 s, .slice p n c] 30)).alloc (.cells #[.int .i64 0, .slice none 0 0] 30)) (w.heap.size + 1) 0 none 0 0) := hid (GBox.new _ _ (by simp))
  have HB0 := hid (bfrom (on_alloc w (.cells #[.int .i64 s, .slice p n c] 30)) (on_alloc _ (.cells #[.int .i64 0, .slice none 0 0] 30)))
  clear hn hr g
  go_enter Try.func34, Try.ntmps34
  go_wp2_with fail
  refine (iIsGraph_any _ _ _ _ es _ hm Hn.out (Hr.out.on HB0.out)).mono ?_
  rw [decide_eq_false G.out]
  rintro e' w2 ⟨rfl, hb2⟩
  have HX2 := hid (HX0.out.on hb2)
  have HK2 := hid (HK0.out.on hb2)
  have HB2 := hid (bfrom HB0.out hb2)
  have hx2 := HX2.out.1
  have hy2 := HX2.out.2
  have hz2' := HX2.out.lt
  have hzk2 := HK2.out.lt
  have hra := HK2.out.box.1
  have hrb := HK2.out.box.2
  have hfa := HK2.out.frozen 0
  have hfb := HK2.out.frozen 1
  clear hb2 HX0 HK0
  go_wp2
  refine bodyPost_ret (v := .tuple #[.agg #[.int .i64 0, .slice none 0 0], .int .i64 1]) (by simp [results, Try.results34, go_sem, hra, hrb]) rfl ⟨rfl, ?_⟩
  exact (HB2.out.setCell (p := ⟨w.heap.size + 1, 0, none⟩) (by show w.heap.size ≤ w.heap.size + 1; omega) _).setCell (p := ⟨w.heap.size + 1, 1, none⟩) (by show w.heap.size ≤ w.heap.size + 1; omega) _

set_option maxRecDepth 100000 in
set_option maxHeartbeats 2000000 in
theorem iOv_range (s v : Int) (p : Option Addr) (n c : Nat) (es : List (Int × Int)) (w : World) (hm : n ≤ 1048576) (hn : es.length = n) (hr : SeesE w p es) (g : IsG s es) (hv : ¬ (0 ≤ v ∧ v < s)) :
    Calls Try.prog 34 #[.agg #[.int .i64 s, .slice p n c], .int .i64 v] w fun e' w' => e' = .returned (.tuple #[.agg #[.int .i64 0, .slice none 0 0], .int .i64 2]) ∧ Below w.heap.size w w' := by
  have Hn := hid hn
  have Hr := hid hr
  have G := hid g
  have Hv := hid hv
  clear hv
  have HX0 := hid ((Box.new w s p n c 30).on (on_alloc _ (.cells #[.int .i64 0, .slice none 0 0] 30)))
  have HK0 : Hid (GBox ((w.alloc (.cells #[.int .i64 s, .slice p n c] 30)).alloc (.cells #[.int .i64 0, .slice none 0 0] 30)) (w.heap.size + 1) 0 none 0 0) := hid (GBox.new _ _ (by simp))
  have HB0 := hid (bfrom (on_alloc w (.cells #[.int .i64 s, .slice p n c] 30)) (on_alloc _ (.cells #[.int .i64 0, .slice none 0 0] 30)))
  clear hn hr g
  go_enter Try.func34, Try.ntmps34
  go_wp2_with fail
  refine (iIsGraph_any _ _ _ _ es _ hm Hn.out (Hr.out.on HB0.out)).mono ?_
  rw [decide_eq_true G.out]
  rintro e' w2 ⟨rfl, hb2⟩
  have HX2 := hid (HX0.out.on hb2)
  have HK2 := hid (HK0.out.on hb2)
  have HB2 := hid (bfrom HB0.out hb2)
  have hx2 := HX2.out.1
  have hy2 := HX2.out.2
  have hz2' := HX2.out.lt
  have hzk2 := HK2.out.lt
  have hra := HK2.out.box.1
  have hrb := HK2.out.box.2
  have hfa := HK2.out.frozen 0
  have hfb := HK2.out.frozen 1
  clear hb2 HX0 HK0
  go_wp2_with (go_at_call 63; refine (iBelow_no _ _ _ Hv.out).mono ?_; rintro e' w' ⟨rfl, rfl⟩)
  refine bodyPost_ret (v := .tuple #[.agg #[.int .i64 0, .slice none 0 0], .int .i64 2]) (by simp [results, Try.results34, go_sem, hra, hrb]) rfl ⟨rfl, ?_⟩
  exact (HB2.out.setCell (p := ⟨w.heap.size + 1, 0, none⟩) (by show w.heap.size ≤ w.heap.size + 1; omega) _).setCell (p := ⟨w.heap.size + 1, 1, none⟩) (by show w.heap.size ≤ w.heap.size + 1; omega) _

set_option maxRecDepth 100000 in
set_option maxHeartbeats 2000000 in
theorem iOv_big (s v : Int) (p : Option Addr) (n c : Nat) (es : List (Int × Int)) (w : World) (hm : n ≤ 1048576) (hn : es.length = n) (hr : SeesE w p es) (g : IsG s es) (hv : 0 ≤ v ∧ v < s) (h18 : 18 < s) :
    Calls Try.prog 34 #[.agg #[.int .i64 s, .slice p n c], .int .i64 v] w fun e' w' => e' = .returned (.tuple #[.agg #[.int .i64 0, .slice none 0 0], .int .i64 3]) ∧ Below w.heap.size w w' := by
  have Hn := hid hn
  have Hr := hid hr
  have G := hid g
  have Hv := hid hv
  have hs20 : s ≤ 20 := g.1.1.2.1
  have e1 : IntKind.i64.wrap (s + 2) = s + 2 := IntWalk.i64_in _ (by omega)
  have t2 : decide (20 < s + 2) = true := by simp; omega
  clear hv
  have HX0 := hid ((Box.new w s p n c 30).on (on_alloc _ (.cells #[.int .i64 0, .slice none 0 0] 30)))
  have HK0 : Hid (GBox ((w.alloc (.cells #[.int .i64 s, .slice p n c] 30)).alloc (.cells #[.int .i64 0, .slice none 0 0] 30)) (w.heap.size + 1) 0 none 0 0) := hid (GBox.new _ _ (by simp))
  have HB0 := hid (bfrom (on_alloc w (.cells #[.int .i64 s, .slice p n c] 30)) (on_alloc _ (.cells #[.int .i64 0, .slice none 0 0] 30)))
  clear hn hr g
  go_enter Try.func34, Try.ntmps34
  go_wp2_with fail
  refine (iIsGraph_any _ _ _ _ es _ hm Hn.out (Hr.out.on HB0.out)).mono ?_
  rw [decide_eq_true G.out]
  rintro e' w2 ⟨rfl, hb2⟩
  have HX2 := hid (HX0.out.on hb2)
  have HK2 := hid (HK0.out.on hb2)
  have HB2 := hid (bfrom HB0.out hb2)
  have hx2 := HX2.out.1
  have hy2 := HX2.out.2
  have hz2' := HX2.out.lt
  have hzk2 := HK2.out.lt
  have hra := HK2.out.box.1
  have hrb := HK2.out.box.2
  have hfa := HK2.out.frozen 0
  have hfb := HK2.out.frozen 1
  clear hb2 HX0 HK0
  go_wp2_with (go_at_call 63; refine (iBelow_yes _ _ _ Hv.out).mono ?_; rintro e' w' ⟨rfl, rfl⟩)
  refine bodyPost_ret (v := .tuple #[.agg #[.int .i64 0, .slice none 0 0], .int .i64 3]) (by simp [results, Try.results34, go_sem, hra, hrb]) rfl ⟨rfl, ?_⟩
  exact (HB2.out.setCell (p := ⟨w.heap.size + 1, 0, none⟩) (by show w.heap.size ≤ w.heap.size + 1; omega) _).setCell (p := ⟨w.heap.size + 1, 1, none⟩) (by show w.heap.size ≤ w.heap.size + 1; omega) _

theorem sOpenVertex_any (s : Int) (p : Option Addr) (n c : Nat) (es : List (Int × Int)) (v : Int) (w : World) (hm : n ≤ 1048576) (hn : es.length = n) (hr : SeesE w p es) :
    Calls Try.prog 33 #[.agg #[.int .i64 s, .slice p n c], .int .i64 v] w fun e' w' => ∃ q cap, e' = .returned (.tuple #[.agg #[.int .i64 (fOpenVertex s es v).1, .slice q (fOpenVertex s es v).2.1.length cap], .int .i64 (fOpenVertex s es v).2.2]) ∧ FreshE w.heap.size w' q (fOpenVertex s es v).2.1.length cap (fOpenVertex s es v).2.1 ∧ Below w.heap.size w w' := by
  unfold fOpenVertex
  by_cases g : IsG s es
  · rw [if_pos g]
    by_cases h : 0 ≤ v ∧ v < s
    · rw [if_pos h]
      by_cases h18 : 18 < s
      · rw [if_pos h18]
        exact (sOv_big s v p n c es w hm hn hr (by rw [verts_one, if_pos g, if_pos h]) h18 g.1.1.2.1).mono fun e' w' ⟨he, hb⟩ => ⟨none, 0, he, FreshE.nil _ _, hb⟩
      · rw [if_neg h18]
        obtain ⟨N, rfl⟩ : ∃ N : Nat, s = N := ⟨_, (Int.toNat_of_nonneg (by have := g.1.1.1; omega)).symm⟩
        obtain ⟨b, off, rfl, rd⟩ := isG_sees g hr
        have hll : (sortE (ovM N v es)).length = n + 3 := by rw [sortE_length, ovM_len, hn]
        dsimp only
        rw [hll]
        exact sOv_yes N v b off n c es w hn rd g h (by omega)
    · rw [if_neg h]
      exact (sOv_code s v 2 p n c es w hm hn hr (by rw [verts_one, if_pos g, if_neg h]) (by decide)).mono fun e' w' ⟨he, hb⟩ => ⟨none, 0, he, FreshE.nil _ _, hb⟩
  · rw [if_neg g]
    exact (sOv_code s v 1 p n c es w hm hn hr (by rw [verts_one, if_neg g]) (by decide)).mono fun e' w' ⟨he, hb⟩ => ⟨none, 0, he, FreshE.nil _ _, hb⟩

theorem iOpenVertex_any (s : Int) (p : Option Addr) (n c : Nat) (es : List (Int × Int)) (v : Int) (w : World) (hm : n ≤ 1048576) (hn : es.length = n) (hr : SeesE w p es) :
    Calls Try.prog 34 #[.agg #[.int .i64 s, .slice p n c], .int .i64 v] w fun e' w' => ∃ q cap, e' = .returned (.tuple #[.agg #[.int .i64 (fOpenVertex s es v).1, .slice q (fOpenVertex s es v).2.1.length cap], .int .i64 (fOpenVertex s es v).2.2]) ∧ FreshE w.heap.size w' q (fOpenVertex s es v).2.1.length cap (fOpenVertex s es v).2.1 ∧ Below w.heap.size w w' := by
  unfold fOpenVertex
  by_cases g : IsG s es
  · rw [if_pos g]
    by_cases h : 0 ≤ v ∧ v < s
    · rw [if_pos h]
      by_cases h18 : 18 < s
      · rw [if_pos h18]
        exact (iOv_big s v p n c es w hm hn hr g h h18).mono fun e' w' ⟨he, hb⟩ => ⟨none, 0, he, FreshE.nil _ _, hb⟩
      · rw [if_neg h18]
        obtain ⟨N, rfl⟩ : ∃ N : Nat, s = N := ⟨_, (Int.toNat_of_nonneg (by have := g.1.1.1; omega)).symm⟩
        obtain ⟨b, off, rfl, rd⟩ := isG_sees g hr
        have hll : (sortE (ovM N v es)).length = n + 3 := by rw [sortE_length, ovM_len, hn]
        dsimp only
        rw [hll]
        exact iOv_yes N b off n c v es w hn rd g h (by omega)
    · rw [if_neg h]
      exact (iOv_range s v p n c es w hm hn hr g h).mono fun e' w' ⟨he, hb⟩ => ⟨none, 0, he, FreshE.nil _ _, hb⟩
  · rw [if_neg g]
    exact (iOv_none s v p n c es w hm hn hr g).mono fun e' w' ⟨he, hb⟩ => ⟨none, 0, he, FreshE.nil _ _, hb⟩

end Go.Proofs.Ytppkcpekknhbmaa
