/- The row of FnExactNewDesk: for every input that can be read, the call returns true and leaves its arguments as they were. -/
import Derived.Test.YtpadnliebimceaaOpen
import Derived.Test.YtpadnliebimceaaMayF
import Derived.Test.YtpadnliebimceaaLawNewDesk
namespace Go.Proofs.Ytpadnliebimceaa
open Go.ChangeShapes Go.WideShapes Go.ChangeAt Go.RowKit

set_option maxRecDepth 100000 in
set_option maxHeartbeats 800000 in
theorem fnExactNewDesk_lifted (os : Os) (started : os.Started) (H : Type) (enc : TypeId × Value → H) :
    ReturnsInHanded {} Try.checked os 3 .any (Rows.fnExactNewDeskSpec.pre6 enc Try.prog Try.f3 Rows.fnExactNewDeskRow.domain false) (Rows.fnExactNewDeskSpec.post enc Try.prog Try.f3 false true false false) := by
  refine returnsInHanded_of_change (C := Try.checked) own started (by kernel_rfl) Try.func3
    (ChangeSpec.witness6 (enc := enc) (C := Try.checked) false ⟨#[], #[], []⟩ 8 (by kernel_rfl) (by kernel_rfl) (by kernel_rfl) (by kernel_rfl)) ?_
  intro W base args ds gs before hval0 hW _ _
  have hval : ∀ (j : Nat) t v, Try.f3.params[j]? = some t → args[j]? = some v → Value.okWide Try.prog W .any base t v := hval0
  have hW' := hW
  obtain ⟨p, q, hA0, hV, rfl, _, _⟩ := hW
  have hA : DataW.TrodAll enc Try.prog W 0 (fun _ => true) true Try.f3.params.toList args.toList ds p := hA0
  rw [Try.params3] at hA hval
  obtain ⟨hargs, rfl, rfl⟩ := trodAll_nil hA
  obtain rfl : args = #[] := by cases args; simp_all
  obtain ⟨rfl, rfl⟩ := trodVars_none hV
  clear hA0 hval0
  refine (lawNewDesk_any  W ).mono fun e W' ⟨he, bel⟩ => ?_
  subst he
  exact ⟨_, rfl, _, _, _, [], _, [], hW', trodAll_mk1 (shut_bool Try.underlying4 _), trodAll_mk0, rfl, bel.frame _, fun h => by cases h⟩

theorem fnExactNewDesk_name : Try.pinned.checked.prog.funcNamed Rows.fnExactNewDeskRow.func = some 3 := by kernel_rfl
theorem fnExactNewDesk_facts : joinedFacts Try.pinned.checked.prog 3 Try.f3 Rows.fnExactNewDeskSpec Rows.fnExactNewDeskRow = true := by
  unfold joinedFacts
  rw [mayEnterT, liftsT _ rfl, makeT _ rfl]
  kernel_rfl
theorem fnExactNewDesk_inst : Try.f3.isInstance Try.pinned.checked.prog Rows.fnExactNewDeskRow.origin Rows.fnExactNewDeskRow.targs := of_decide_eq_true (by kernel_rfl)
theorem fnExactNewDesk_wrap : Try.f3.isWrapper Try.pinned.checked.prog Rows.fnExactNewDeskRow.wrapper Rows.fnExactNewDeskRow.mainSum := by unfold Func.isWrapper; rw [if_neg (of_decide_eq_false (by kernel_rfl))]; exact ⟨rfl, rfl⟩

theorem fnExactNewDesk_holds : Rows.FnExactNewDeskSaid :=
  OpenClaim.holds_of_wide 3 Try.f3 rfl rfl rfl rfl rfl rfl rfl ⟨rfl, rfl, rfl, rfl, rfl⟩ rfl rfl rfl rfl rfl fnExactNewDesk_name Try.func3 fnExactNewDesk_facts fnExactNewDesk_inst fnExactNewDesk_wrap
    (fun os started H enc _ => fnExactNewDesk_lifted os started H enc)

end Go.Proofs.Ytpadnliebimceaa
