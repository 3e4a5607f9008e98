/- The row of FnExactIsDoubleCover: for every input that can be read, the call returns true and leaves its arguments as they were. -/
import Derived.Test.YtogdcoioflcdiaaOpen
import Derived.Test.YtogdcoioflcdiaaMayF
import Derived.Test.YtogdcoioflcdiaaListsT
import Derived.Test.YtogdcoioflcdiaaLawIsDoubleCover
namespace Go.Proofs.Ytogdcoioflcdiaa
open Go.ChangeShapes Go.WideShapes Go.ChangeAt Go.RowKit

set_option maxRecDepth 100000 in
set_option maxHeartbeats 800000 in
theorem fnExactIsDoubleCover_lifted (os : Os) (started : os.Started) (H : Type) (enc : TypeId × Value → H) :
    ReturnsInHanded {} Try.checked os 8 .any (Rows.fnExactIsDoubleCoverSpec.pre6 enc Try.prog Try.f8 Rows.fnExactIsDoubleCoverRow.domain false) (Rows.fnExactIsDoubleCoverSpec.post enc Try.prog Try.f8 false true false false) := by
  refine returnsInHanded_of_change (C := Try.checked) own started (by kernel_rfl) Try.func8
    (ChangeSpec.witness6 (enc := enc) (C := Try.checked) false ⟨#[], #[.agg #[.int .i64 0, .slice none 0 0], .slice none 0 0], []⟩ 8 (by kernel_rfl) (by kernel_rfl) (by kernel_rfl) (by kernel_rfl)) ?_
  intro W base args ds gs before hval0 hW _ _
  have hval : ∀ (j : Nat) t v, Try.f8.params[j]? = some t → args[j]? = some v → Value.okWide Try.prog W .any base t v := hval0
  have hW' := hW
  obtain ⟨p, q, hA0, hV, rfl, _, _⟩ := hW
  have hA : DataW.TrodAll enc Try.prog W 0 (fun _ => true) true Try.f8.params.toList args.toList ds p := hA0
  rw [Try.params8] at hA hval
  obtain ⟨v0, vs0, d0, ds0, p0, q0, hargs, rfl, rfl, h0, r0⟩ := trodAll_cons hA
  obtain ⟨v1, vs1, d1, ds1, p1, q1, rfl, rfl, rfl, h1, r1⟩ := trodAll_cons r0
  obtain ⟨rfl, rfl, rfl⟩ := trodAll_nil r1
  obtain rfl : args = #[v0, v1] := by cases args; simp_all
  obtain ⟨rfl, rfl⟩ := trodVars_none hV
  have k0 := h0
  have lt0 : ∀ x ∈ p0, x.block < W.heap.size := by obtain ⟨m, hm⟩ := k0; exact DataW.trod_lt m _ _ _ hm
  obtain ⟨s0, a0, n0, c0, es0, rfl, hl0, hn0, hs0⟩ := open_graph (hval 0 24 v0 rfl rfl) h0
  have k1 := h1
  have lt1 : ∀ x ∈ p1, x.block < W.heap.size := by obtain ⟨m, hm⟩ := k1; exact DataW.trod_lt m _ _ _ hm
  obtain ⟨a1, n1, c1, es1, rfl, hl1, hn1, hw1, hs1⟩ := open_lists (hval 1 42 v1 rfl rfl) h1
  clear hA0 hval0
  refine (lawIsDoubleCover_any s0 a0 n0 c0 es0 a1 n1 c1 es1 W hl0 hn0 hs0 hl1 hn1 hw1 hs1).mono fun e W' ⟨he, bel⟩ => ?_
  subst he
  exact ⟨_, rfl, _, _, _, [], _, [], hW', trodAll_mk1 (shut_bool Try.underlying4 _), (trodAll_cons_mk (Below.trod laidOut (by kernel_rfl) (of_decide_eq_true (by kernel_rfl)) k0 bel lt0) (trodAll_cons_mk (Below.trod laidOut (by kernel_rfl) (of_decide_eq_true (by kernel_rfl)) k1 bel lt1) trodAll_mk0)), rfl, bel.frame _, fun h => by cases h⟩

theorem fnExactIsDoubleCover_name : Try.pinned.checked.prog.funcNamed Rows.fnExactIsDoubleCoverRow.func = some 8 := by kernel_rfl
theorem fnExactIsDoubleCover_facts : joinedFacts Try.pinned.checked.prog 8 Try.f8 Rows.fnExactIsDoubleCoverSpec Rows.fnExactIsDoubleCoverRow = true := by
  unfold joinedFacts
  rw [mayEnterT, liftsT _ rfl, makeT _ rfl]
  kernel_rfl
theorem fnExactIsDoubleCover_inst : Try.f8.isInstance Try.pinned.checked.prog Rows.fnExactIsDoubleCoverRow.origin Rows.fnExactIsDoubleCoverRow.targs := of_decide_eq_true (by kernel_rfl)
theorem fnExactIsDoubleCover_wrap : Try.f8.isWrapper Try.pinned.checked.prog Rows.fnExactIsDoubleCoverRow.wrapper Rows.fnExactIsDoubleCoverRow.mainSum := by unfold Func.isWrapper; rw [if_neg (of_decide_eq_false (by kernel_rfl))]; exact ⟨rfl, rfl⟩

theorem fnExactIsDoubleCover_holds : Rows.FnExactIsDoubleCoverSaid :=
  OpenClaim.holds_of_wide 8 Try.f8 rfl rfl rfl rfl rfl rfl rfl ⟨rfl, rfl, rfl, rfl, rfl⟩ rfl rfl rfl rfl rfl fnExactIsDoubleCover_name Try.func8 fnExactIsDoubleCover_facts fnExactIsDoubleCover_inst fnExactIsDoubleCover_wrap
    (fun os started H enc _ => fnExactIsDoubleCover_lifted os started H enc)

end Go.Proofs.Ytogdcoioflcdiaa
