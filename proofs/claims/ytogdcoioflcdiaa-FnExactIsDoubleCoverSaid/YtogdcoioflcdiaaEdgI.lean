/- Sets of edges in the program: codeOfEdges. -/
import Derived.Test.YtogdcoioflcdiaaImplG
import Derived.Test.YtogdcoioflcdiaaSetI
import Derived.Test.YtogdcoioflcdiaaEdgM
namespace Go.Proofs.Ytogdcoioflcdiaa
open Go.RowKit


set_option maxRecDepth 100000 in
set_option maxHeartbeats 2000000 in
theorem iCodeE_none (s : Int) (p ps : Option Addr) (n c k f : Nat) (es : List (Int × Int)) (w : World) (hm : n ≤ 1048576) (hn : es.length = n) (hr : SeesE w p es) (g : ¬ IsG s es) :
    Calls Try.prog 62 #[.agg #[.int .i64 s, .slice p n c], .slice ps k f] w fun e' w' => e' = .returned (.int .i64 1) ∧ Below w.heap.size w w' := by
  have Hn := hid hn
  have Hr := hid hr
  have G := hid g
  clear hn hr g
  go_enter Try.func62, Try.ntmps62
  go_wp2_with fail
  refine (iIsGraph_any _ _ _ _ es _ hm Hn.out (Hr.out.on (on_alloc _ _))).mono ?_
  rw [decide_eq_false G.out]
  rintro e w2 ⟨rfl, hb2⟩
  have hB2 := bfrom (w := w) (by go_grown) hb2
  go_wp2
  go_ret
  exact ⟨rfl, hB2⟩

set_option maxRecDepth 100000 in
set_option maxHeartbeats 2000000 in
theorem iCodeE_set (s : Int) (b off n c k f : Nat) (ps : Option Addr) (es : List (Int × Int)) (xs : List Int) (w : World) (hn : es.length = n) (hr : ReadsE w b off es) (g : IsG s es) (hk9 : k ≤ 1048576) (hx : xs.length = k) (hrx : SeesI w ps xs) :
    Calls Try.prog 62 #[.agg #[.int .i64 s, .slice (some ⟨b, off, none⟩) n c], .slice ps k f] w fun e' w' => e' = .returned (.int .i64 (setCode n xs)) ∧ Below w.heap.size w w' := by
  have hn30 : n ≤ 30 := by have := isG_len g; omega
  have Hn := hid hn
  have Hr := hid hr
  have G := hid g
  have Hx := hid hx
  have Hrx := hid hrx
  unfold setCode
  by_cases gs : isSetP n xs
  all_goals
    first | rw [if_pos gs] | rw [if_neg gs]
    have GS := hid gs
    have HD := hid (show decide (isSetP n xs) = decide (isSetP n xs) from rfl)
  all_goals
    go_enter Try.func62, Try.ntmps62
    go_wp2_with fail
    refine (iIsGraph_any _ _ _ _ es _ (by omega) Hn.out (SeesE.on (.inr ⟨b, off, rfl, Hr.out⟩) (on_alloc _ _))).mono ?_
    rw [decide_eq_true G.out]
    rintro e w2 ⟨rfl, hb2⟩
    have HB2 := hid (bfrom (w := w) (on_alloc _ _) hb2)
    have hX2 := (Box.new w s (some ⟨b, off, none⟩) n c 31).on hb2
    have hy2 := hX2.2
    have hz2 := hX2.lt
    clear hX2 hb2
    go_wp2_with fail
    refine (iSet_any _ _ _ n xs _ Hx.out hk9 (Hrx.out.on HB2.out)).mono ?_
    first | rw [decide_eq_true GS.out] | rw [decide_eq_false GS.out]
    rintro e w3 ⟨rfl, rfl⟩
    go_wp2
    go_ret
    exact ⟨rfl, HB2.out⟩

theorem iCodeE_any (s : Int) (p ps : Option Addr) (n c k f : Nat) (es : List (Int × Int)) (xs : List Int) (w : World) (hm : n ≤ 1048576) (hn : es.length = n) (hr : SeesE w p es) (hk9 : k ≤ 1048576) (hx : xs.length = k) (hrx : SeesI w ps xs) :
    Calls Try.prog 62 #[.agg #[.int .i64 s, .slice p n c], .slice ps k f] w fun e' w' => e' = .returned (.int .i64 (edgesCode s es xs)) ∧ Below w.heap.size w w' := by
  unfold edgesCode
  by_cases g : IsG s es
  · rw [if_pos g, hn]
    obtain ⟨b, off, rfl, rd⟩ := isG_sees g hr
    exact iCodeE_set s b off n c k f ps es xs w hn rd g hk9 hx hrx
  · rw [if_neg g]
    exact iCodeE_none s p ps n c k f es w hm hn hr g

end Go.Proofs.Ytogdcoioflcdiaa
