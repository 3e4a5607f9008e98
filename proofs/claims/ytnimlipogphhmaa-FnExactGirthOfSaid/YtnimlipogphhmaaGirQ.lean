/- GirthOf at any graph, in the model and in the program. -/
import Derived.Test.YtnimlipogphhmaaGirM
import Derived.Test.YtnimlipogphhmaaGirP
namespace Go.Proofs.Ytnimlipogphhmaa
open Go.RowKit

attribute [local go_sem] Oper.semAt_some

set_option maxRecDepth 100000 in
set_option maxHeartbeats 4000000 in
theorem sGirthOf_any (s : Int) (p : Option Addr) (n c : Nat) (es : List (Int × Int)) (w : World) (hm : n ≤ 1048576) (hn : es.length = n) (hr : SeesE w p es) :
    Calls Try.prog 8 #[.agg #[.int .i64 s, .slice p n c]] w fun e' w' => e' = .returned (.tuple #[.int .i64 (fGirthOf s es).1, .int .i64 (fGirthOf s es).2]) ∧ Below w.heap.size w w' := by
  have Hn := hid hn
  have Hr := hid hr
  unfold fGirthOf
  by_cases g : IsG s es
  · rw [if_pos g]
    obtain ⟨N, rfl⟩ : ∃ N : Nat, s = N := ⟨_, (Int.toNat_of_nonneg (by have := g.1.1.1; omega)).symm⟩
    obtain ⟨b, off, rfl, rd⟩ := isG_sees g hr
    have RD := hid rd
    have G := hid g
    rw [Int.toNat_natCast, hn]
    clear hn hr g rd
    go_enter Try.func8, Try.ntmps8
    go_wp2_with fail
    refine (sIs_any _ _ _ _ es _ (by omega) Hn.out (.inr ⟨b, off, rfl, RD.out.on (on_alloc _ _)⟩)).mono ?_
    rw [decide_eq_true G.out]
    rintro e w2 ⟨rfl, hb2⟩
    have hX2 := (Box.new w N (some ⟨b, off, none⟩) n c 30).on hb2
    have hx2 := hX2.1
    have hy2 := hX2.2
    have hz2 := hX2.lt
    have HB2 := hid (bfrom (w := w) (by go_grown) hb2)
    clear hb2 hX2
    go_wp2_with fail
    refine (sGirth_any N b off n c es _ Hn.out (RD.out.on HB2.out) G.out).mono ?_
    rintro e w3 ⟨rfl, hb3⟩
    have HB3 := hid (bfrom HB2.out hb3)
    clear hb3 hx2 hy2 hz2
    go_wp2
    go_ret2
    exact ⟨rfl, HB3.out⟩
  · rw [if_neg g]
    have G := hid g
    clear hn hr g
    go_enter Try.func8, Try.ntmps8
    go_wp2_with fail
    refine (sIs_any _ _ _ _ es _ (by omega) Hn.out (Hr.out.on (on_alloc _ _))).mono ?_
    rw [decide_eq_false G.out]
    rintro e w2 ⟨rfl, hb2⟩
    have HB2 := hid (bfrom (w := w) (by go_grown) hb2)
    clear hb2
    go_wp2
    go_ret2
    exact ⟨rfl, HB2.out⟩

set_option maxRecDepth 100000 in
set_option maxHeartbeats 4000000 in
theorem iGirthOf_any (s : Int) (p : Option Addr) (n c : Nat) (es : List (Int × Int)) (w : World) (hm : n ≤ 1048576) (hn : es.length = n) (hr : SeesE w p es) :
    Calls Try.prog 10 #[.agg #[.int .i64 s, .slice p n c]] w fun e' w' => e' = .returned (.tuple #[.int .i64 (fGirthOf s es).1, .int .i64 (fGirthOf s es).2]) ∧ Below w.heap.size w w' := by
  unfold fGirthOf
  by_cases g : IsG s es
  · rw [if_pos g]
    obtain ⟨N, rfl⟩ : ∃ N : Nat, s = N := ⟨_, (Int.toNat_of_nonneg (by have := g.1.1.1; omega)).symm⟩
    obtain ⟨b, off, rfl, rd⟩ := isG_sees g hr
    rw [Int.toNat_natCast, hn]
    exact iGirth_yes N b off n c es w hn rd g
  · rw [if_neg g]
    have Hn := hid hn
    have Hr := hid hr
    have G := hid g
    clear hn hr g
    go_enter Try.func10, Try.ntmps10
    go_wp2_with fail
    refine (iIsGraph_any _ _ _ _ es _ (by omega) Hn.out (Hr.out.on (on_alloc _ _))).mono ?_
    rw [decide_eq_false G.out]
    rintro e w2 ⟨rfl, hb2⟩
    have HB2 := hid (bfrom (w := w) (by go_grown) hb2)
    clear hb2
    go_wp2
    go_ret2
    exact ⟨rfl, HB2.out⟩

end Go.Proofs.Ytnimlipogphhmaa
