/- The row of FnExactCoverNumber: for every input that can be read, the call returns true and leaves its arguments as they were. -/
import Derived.Test.YtaafbdpdpndplaaOpen
import Derived.Test.YtaafbdpdpndplaaMayF
import Derived.Test.YtaafbdpdpndplaaLawCoverNumber
namespace Go.Proofs.Ytaafbdpdpndplaa
open Go.ChangeShapes Go.WideShapes Go.ChangeAt Go.RowKit

set_option maxRecDepth 100000 in
set_option maxHeartbeats 800000 in
theorem fnExactCoverNumber_lifted (os : Os) (started : os.Started) (H : Type) (enc : TypeId × Value → H) :
    ReturnsInHanded {} Try.checked os 3 .any (Rows.fnExactCoverNumberSpec.pre6 enc Try.prog Try.f3 Rows.fnExactCoverNumberRow.domain false) (Rows.fnExactCoverNumberSpec.post enc Try.prog Try.f3 false true false false) := by
  refine returnsInHanded_of_change (C := Try.checked) own started (by kernel_rfl) Try.func3
    (ChangeSpec.witness6 (enc := enc) (C := Try.checked) false ⟨#[], #[.agg #[.int .i64 0, .slice none 0 0]], []⟩ 8 (by kernel_rfl) (by kernel_rfl) (by kernel_rfl) (by kernel_rfl)) ?_
  intro W base args ds gs before hval0 hW _ _
  have hval : ∀ (j : Nat) t v, Try.f3.params[j]? = some t → args[j]? = some v → Value.okWide Try.prog W .any base t v := hval0
  have hW' := hW
  obtain ⟨p, q, hA0, hV, rfl, _, _⟩ := hW
  have hA : DataW.TrodAll enc Try.prog W 0 (fun _ => true) true Try.f3.params.toList args.toList ds p := hA0
  rw [Try.params3] at hA hval
  obtain ⟨v0, vs0, d0, ds0, p0, q0, hargs, rfl, rfl, h0, r0⟩ := trodAll_cons hA
  obtain ⟨rfl, rfl, rfl⟩ := trodAll_nil r0
  obtain rfl : args = #[v0] := by cases args; simp_all
  obtain ⟨rfl, rfl⟩ := trodVars_none hV
  have k0 := h0
  have lt0 : ∀ x ∈ p0, x.block < W.heap.size := by obtain ⟨m, hm⟩ := k0; exact DataW.trod_lt m _ _ _ hm
  obtain ⟨s0, a0, n0, c0, es0, rfl, hl0, hn0, hs0⟩ := open_graph (hval 0 24 v0 rfl rfl) h0
  clear hA0 hval0
  refine (lawCoverNumber_any s0 a0 n0 c0 es0 W hl0 hn0 hs0).mono fun e W' ⟨he, bel⟩ => ?_
  subst he
  exact ⟨_, rfl, _, _, _, [], _, [], hW', trodAll_mk1 (shut_bool Try.underlying4 _), (trodAll_cons_mk (Below.trod laidOut (by kernel_rfl) (of_decide_eq_true (by kernel_rfl)) k0 bel lt0) trodAll_mk0), rfl, bel.frame _, fun h => by cases h⟩

theorem fnExactCoverNumber_name : Try.pinned.checked.prog.funcNamed Rows.fnExactCoverNumberRow.func = some 3 := by kernel_rfl
theorem fnExactCoverNumber_facts : joinedFacts Try.pinned.checked.prog 3 Try.f3 Rows.fnExactCoverNumberSpec Rows.fnExactCoverNumberRow = true := by
  unfold joinedFacts
  rw [mayEnterT, liftsT _ rfl, makeT _ rfl]
  kernel_rfl
theorem fnExactCoverNumber_inst : Try.f3.isInstance Try.pinned.checked.prog Rows.fnExactCoverNumberRow.origin Rows.fnExactCoverNumberRow.targs := of_decide_eq_true (by kernel_rfl)
theorem fnExactCoverNumber_wrap : Try.f3.isWrapper Try.pinned.checked.prog Rows.fnExactCoverNumberRow.wrapper Rows.fnExactCoverNumberRow.mainSum := by unfold Func.isWrapper; rw [if_neg (of_decide_eq_false (by kernel_rfl))]; exact ⟨rfl, rfl⟩

theorem fnExactCoverNumber_holds : Rows.FnExactCoverNumberSaid :=
  OpenClaim.holds_of_wide 3 Try.f3 rfl rfl rfl rfl rfl rfl rfl ⟨rfl, rfl, rfl, rfl, rfl⟩ rfl rfl rfl rfl rfl fnExactCoverNumber_name Try.func3 fnExactCoverNumber_facts fnExactCoverNumber_inst fnExactCoverNumber_wrap
    (fun os started H enc _ => fnExactCoverNumber_lifted os started H enc)

end Go.Proofs.Ytaafbdpdpndplaa
