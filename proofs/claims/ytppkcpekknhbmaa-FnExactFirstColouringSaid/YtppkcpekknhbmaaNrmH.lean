/- FirstColouring at any argument, in the model and in the program. -/
import Derived.Test.YtppkcpekknhbmaaNrmG
namespace Go.Proofs.Ytppkcpekknhbmaa
open Go.RowKit Go.Shelf

set_option maxRecDepth 100000 in
set_option maxHeartbeats 2000000 in
theorem sFirst_no (s : Int) (p : Option Addr) (n c : Nat) (es : List (Int × Int)) (w : World) (hm : n ≤ 1048576) (hn : es.length = n) (hr : SeesE w p es) (g : ¬ IsG s es) :
    Calls Try.prog 17 #[.agg #[.int .i64 s, .slice p n c]] w fun e' w' => e' = .returned (.tuple #[.slice none 0 0, .int .i64 1]) ∧ Below w.heap.size w w' := by
  have Hn := hid hn
  have Hr := hid hr
  have G := hid g
  clear hn hr g
  go_enter Try.func17, Try.ntmps17
  go_wp2_with fail
  refine (sIs_any _ _ _ _ es _ (by omega) Hn.out (Hr.out.on (on_alloc _ _))).mono ?_
  rw [decide_eq_false G.out]
  rintro e w2 ⟨rfl, hb2⟩
  have hB2 := bfrom (w := w) (by go_grown) hb2
  go_wp2
  go_ret2
  exact ⟨rfl, hB2⟩

set_option maxRecDepth 100000 in
set_option maxHeartbeats 2000000 in
theorem iFirst_no (s : Int) (p : Option Addr) (n c : Nat) (es : List (Int × Int)) (w : World) (hm : n ≤ 1048576) (hn : es.length = n) (hr : SeesE w p es) (g : ¬ IsG s es) :
    Calls Try.prog 18 #[.agg #[.int .i64 s, .slice p n c]] w fun e' w' => e' = .returned (.tuple #[.slice none 0 0, .int .i64 1]) ∧ Below w.heap.size w w' := by
  have Hn := hid hn
  have Hr := hid hr
  have G := hid g
  have HB0 := hid (show Below w.heap.size w (((w.alloc (.cells #[.int .i64 s, .slice p n c] 30)).alloc (.cells #[.slice none 0 0] 34)).alloc (.cells #[.int .i64 0] 2)) from bfrom (bfrom (on_alloc _ _) (on_alloc _ _)) (on_alloc _ _))
  have hR4 := (Boxed.new (w.alloc (.cells #[.int .i64 s, .slice p n c] 30)) 34 (.slice none 0 0)).alloc (.cells #[.int .i64 0] 2)
  have hR5 := Boxed.new ((w.alloc (.cells #[.int .i64 s, .slice p n c] 30)).alloc (.cells #[.slice none 0 0] 34)) 2 (.int .i64 0)
  simp only [World.size_alloc] at hR4 hR5
  have HR4 := hid hR4
  have HR5 := hid hR5
  clear hn hr g hR4 hR5
  go_enter Try.func18, Try.ntmps18
  go_wp2_with fail
  refine (iIsGraph_any _ _ _ _ es _ hm Hn.out (Hr.out.on HB0.out)).mono ?_
  rw [decide_eq_false G.out]
  rintro e w2 ⟨rfl, hb2⟩
  have HB2 := hid (bfrom HB0.out hb2)
  have hq4 : Boxed w2 (w.heap.size + 1) 34 (.slice none 0 0) := (hb2.block (w.heap.size + 1) (by simp)).trans HR4.out
  have hq5 : Boxed w2 (w.heap.size + 1 + 1) 2 (.int .i64 0) := (hb2.block (w.heap.size + 1 + 1) (by simp)).trans HR5.out
  have hc4 := hq4.cell
  have hc5 := hq5.cell
  have hf4 := hq4.frozen
  have hf5 := hq5.frozen
  have hz4 := hq4.lt
  have hz5 := hq5.lt
  clear hb2
  go_wp2
  refine bodyPost_ret (results_first rfl _ _ (w.heap.size + 1) (w.heap.size + 1 + 1) _ _ _ _ rfl rfl ((Boxed.set _ hq4).other (by omega) _) (Boxed.set _ (hq5.other (by omega) _))) rfl ?_
  exact ⟨rfl, (HB2.out.setCell (p := ⟨w.heap.size + 1, 0, none⟩) (by show w.heap.size ≤ w.heap.size + 1; omega) _).setCell (p := ⟨w.heap.size + 1 + 1, 0, none⟩) (by show w.heap.size ≤ w.heap.size + 1 + 1; omega) _⟩

theorem sFirstColouring_any (s : Int) (p : Option Addr) (n c : Nat) (es : List (Int × Int)) (w : World) (hm : n ≤ 1048576) (hn : es.length = n) (hr : SeesE w p es) :
    Calls Try.prog 17 #[.agg #[.int .i64 s, .slice p n c]] w fun e' w' => ∃ q cap, e' = .returned (.tuple #[.slice q (fFirstColouring s es).1.length cap, .int .i64 (fFirstColouring s es).2]) ∧ FreshI w.heap.size w' q (fFirstColouring s es).1.length cap (fFirstColouring s es).1 ∧ Below w.heap.size w w' := by
  unfold fFirstColouring
  by_cases g : IsG s es
  · rw [if_pos g]
    obtain ⟨b, off, rfl, rd⟩ := isG_sees g hr
    exact sFirst_yes s b off n c es w hn rd g
  · rw [if_neg g]
    exact (sFirst_no s p n c es w hm hn hr g).mono fun e w' ⟨he, hb⟩ => ⟨none, 0, he, FreshI.nil _ _, hb⟩
theorem iFirstColouring_any (s : Int) (p : Option Addr) (n c : Nat) (es : List (Int × Int)) (w : World) (hm : n ≤ 1048576) (hn : es.length = n) (hr : SeesE w p es) :
    Calls Try.prog 18 #[.agg #[.int .i64 s, .slice p n c]] w fun e' w' => ∃ q cap, e' = .returned (.tuple #[.slice q (fFirstColouring s es).1.length cap, .int .i64 (fFirstColouring s es).2]) ∧ FreshI w.heap.size w' q (fFirstColouring s es).1.length cap (fFirstColouring s es).1 ∧ Below w.heap.size w w' := by
  unfold fFirstColouring
  by_cases g : IsG s es
  · rw [if_pos g]
    obtain ⟨b, off, rfl, rd⟩ := isG_sees g hr
    exact iFirst_yes s b off n c es w hn rd g
  · rw [if_neg g]
    exact (iFirst_no s p n c es w hm hn hr g).mono fun e w' ⟨he, hb⟩ => ⟨none, 0, he, FreshI.nil _ _, hb⟩

end Go.Proofs.Ytppkcpekknhbmaa
