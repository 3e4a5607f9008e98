/- Sets of edges in the model: l03Edges. -/
import Derived.Test.YtogdcoioflcdiaaLeaveS
import Derived.Deep.RegionWith
import Derived.Deep.RegionHeld3
import Derived.Deep.DeepCutAuto
namespace Go.Proofs.Ytogdcoioflcdiaa
open Go.RowKit

def edgesCode (s : Int) (es : List (Int × Int)) (xs : List Int) : Int := if IsG s es then setCode es.length xs else 1

set_option maxRecDepth 100000 in
set_option maxHeartbeats 2000000 in
theorem sEdges_none (s : Int) (p ps : Option Addr) (n c k f : Nat) (es : List (Int × Int)) (w : World) (hm : n ≤ 1048576) (hn : es.length = n) (hr : SeesE w p es) (g : ¬ IsG s es) :
    Calls Try.prog 54 #[.agg #[.int .i64 s, .slice p n c], .slice ps k f] w fun e' w' => e' = .returned (.int .i64 1) ∧ Below w.heap.size w w' := by
  have Hn := hid hn
  have Hr := hid hr
  have G := hid g
  have hm9 : n ≤ 9223372036854775807 := by omega
  clear hn hr g
  go_enter Try.func54, Try.ntmps54
  go_wp2_with fail
  refine (sIs_any _ _ _ _ es _ hm9 Hn.out (Hr.out.on (on_alloc _ _))).mono ?_
  rw [decide_eq_false G.out]
  rintro e w2 ⟨rfl, hb2⟩
  have hB2 := bfrom (w := w) (by go_grown) hb2
  go_wp2
  go_ret
  exact ⟨rfl, hB2⟩

set_option maxRecDepth 100000 in
set_option maxHeartbeats 2000000 in
theorem sEdges_set (s : Int) (b off n c k f : Nat) (ps : Option Addr) (es : List (Int × Int)) (xs : List Int) (w : World) (hn : es.length = n) (hr : ReadsE w b off es) (g : IsG s es) (hk9 : k ≤ 1048576) (hx : xs.length = k) (hrx : SeesI w ps xs) :
    Calls Try.prog 54 #[.agg #[.int .i64 s, .slice (some ⟨b, off, none⟩) n c], .slice ps k f] w fun e' w' => e' = .returned (.int .i64 (setCode n xs)) ∧ Below w.heap.size w w' := by
  have hn30 : n ≤ 30 := by have := isG_len g; omega
  have hn1 : 1 ≤ n := by have := g.1.1.2.2.2; have := g.1.1.1; omega
  have Hn := hid hn
  have Hr := hid hr
  have G := hid g
  have Hx := hid hx
  have Hrx := hid hrx
  obtain ⟨r, hrr⟩ : ∃ r, setCode n xs = r := ⟨_, rfl⟩
  rw [hrr]
  have HR := hid hrr
  clear hn hr g hx hrx hrr
  go_enter Try.func54, Try.ntmps54
  go_wp2_with fail
  refine (sIs_any _ _ _ _ es _ (by omega) Hn.out (SeesE.on (.inr ⟨b, off, rfl, Hr.out⟩) (on_alloc _ _))).mono ?_
  rw [decide_eq_true G.out]
  rintro e w2 ⟨rfl, hb2⟩
  have HB2 := hid (bfrom (w := w) (on_alloc _ _) hb2)
  have hX2 := (Box.new w s (some ⟨b, off, none⟩) n c 31).on hb2
  have hy2 := hX2.2
  have hz2 := hX2.lt
  clear hX2 hb2
  go_wp2_with fail
  refine (sSet_any _ _ _ _ xs _ hn1 hn30 Hx.out hk9 (Hrx.out.on HB2.out)).mono ?_
  rw [HR.out]
  rintro e w3 ⟨rfl, hb3⟩
  have HB3 := hid (bfrom HB2.out hb3)
  clear hy2 hz2 hb3
  go_wp2
  go_ret
  exact ⟨rfl, HB3.out⟩

theorem sEdges_any (s : Int) (p ps : Option Addr) (n c k f : Nat) (es : List (Int × Int)) (xs : List Int) (w : World) (hm : n ≤ 1048576) (hn : es.length = n) (hr : SeesE w p es) (hk9 : k ≤ 1048576) (hx : xs.length = k) (hrx : SeesI w ps xs) :
    Calls Try.prog 54 #[.agg #[.int .i64 s, .slice p n c], .slice ps k f] w fun e' w' => e' = .returned (.int .i64 (edgesCode s es xs)) ∧ Below w.heap.size w w' := by
  unfold edgesCode
  by_cases g : IsG s es
  · rw [if_pos g, hn]
    obtain ⟨b, off, rfl, rd⟩ := isG_sees g hr
    exact sEdges_set s b off n c k f ps es xs w hn rd g hk9 hx hrx
  · rw [if_neg g]
    exact sEdges_none s p ps n c k f es w hm hn hr g

end Go.Proofs.Ytogdcoioflcdiaa
