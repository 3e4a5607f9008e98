/- IsColouring in the program. -/
import Derived.Test.YtkcljjbjlhageabColI
namespace Go.Proofs.Ytkcljjbjlhageab
open Go.RowKit

set_option maxRecDepth 100000 in
set_option maxHeartbeats 2000000 in
theorem iIsCol_none (s : Int) (p q : Option Addr) (n c m d : Nat) (es : List (Int × Int)) (w : World) (hn : es.length = n) (hm : n ≤ 1048576) (hr : SeesE w p es) (g : ¬ IsG s es) :
    Calls Try.prog 18 #[.agg #[.int .i64 s, .slice p n c], .slice q m d] w fun e' w' => e' = .returned (.tuple #[.bool false, .int .i64 1]) ∧ Below w.heap.size w w' := by
  have Hn := hid hn
  have Hr := hid hr
  have G := hid g
  clear hn hr g
  go_enter Try.func18, Try.ntmps18
  go_wp2_with fail
  refine (iIsGraph_any _ _ _ _ es _ hm Hn.out (Hr.out.on (on_alloc _ _))).mono ?_
  rw [decide_eq_false G.out]
  rintro e w2 ⟨rfl, hb2⟩
  have hB2 := bfrom (w := w) (by go_grown) hb2
  go_wp2
  go_ret2
  exact ⟨rfl, hB2⟩

set_option maxRecDepth 100000 in
set_option maxHeartbeats 2000000 in
theorem iIsCol_yes (s : Int) (p q : Option Addr) (n c m d : Nat) (es : List (Int × Int)) (cs : List Int) (w : World) (hn : es.length = n) (hm : n ≤ 1048576) (hr : SeesE w p es) (hl : cs.length = m) (hm2 : m ≤ 1048576) (hrc : SeesI w q cs) (g : IsG s es) :
    Calls Try.prog 18 #[.agg #[.int .i64 s, .slice p n c], .slice q m d] w fun e' w' => e' = .returned (.tuple #[.bool (decide (isColP es cs)), .int .i64 0]) ∧ Below w.heap.size w w' := by
  have Hn := hid hn
  have Hr := hid hr
  have G := hid g
  have Hl := hid hl
  have Hrc := hid hrc
  have Hm2 := hid hm2
  obtain ⟨r, hR⟩ : ∃ r : Bool, decide (isColP es cs) = r := ⟨_, rfl⟩
  rw [hR]
  have HR := hid hR
  clear hn hr g hl hrc hm2 hR
  go_enter Try.func18, Try.ntmps18
  go_wp2_with fail
  refine (iIsGraph_any _ _ _ _ es _ hm Hn.out (Hr.out.on (on_alloc _ _))).mono ?_
  rw [decide_eq_true G.out]
  rintro e w2 ⟨rfl, hb2⟩
  have hB2 := bfrom (w := w) (by go_grown) hb2
  obtain ⟨hc2, hf2⟩ := bcells hb2
  have hz2 : w.heap.size < w2.heap.size := by have := hb2.size; simp at this; omega
  go_wp2_with fail
  refine (iColIs_any _ _ _ _ _ _ _ es cs _ G.out Hn.out (Hr.out.on hB2) Hl.out Hm2.out (Hrc.out.on hB2)).mono ?_
  rw [HR.out]
  rintro e w3 ⟨rfl, hb3⟩
  go_wp2
  go_ret2
  exact ⟨rfl, bfrom hB2 hb3⟩

theorem iIsColouring_any (s : Int) (p : Option Addr) (n c : Nat) (es : List (Int × Int)) (q : Option Addr) (m d : Nat) (cs : List Int) (w : World) (hm : n ≤ 1048576) (hn : es.length = n) (hr : SeesE w p es) (hm2 : m ≤ 1048576) (hl : cs.length = m) (hrc : SeesI w q cs) :
    Calls Try.prog 18 #[.agg #[.int .i64 s, .slice p n c], .slice q m d] w fun e' w' => e' = .returned (.tuple #[.bool (fIsColouring s es cs).1, .int .i64 (fIsColouring s es cs).2]) ∧ Below w.heap.size w w' := by
  unfold fIsColouring
  by_cases g : IsG s es
  · rw [if_pos g]
    exact iIsCol_yes s p q n c m d es cs w hn hm hr hl hm2 hrc g
  · rw [if_neg g]
    exact iIsCol_none s p q n c m d es w hn hm hr g

end Go.Proofs.Ytkcljjbjlhageab
