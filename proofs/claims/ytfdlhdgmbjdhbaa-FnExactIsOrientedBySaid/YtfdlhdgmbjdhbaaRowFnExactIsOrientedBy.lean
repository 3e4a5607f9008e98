/- The row of FnExactIsOrientedBy: for every input that can be read, the call returns true and leaves its arguments as they were. -/
import Derived.Test.YtfdlhdgmbjdhbaaOpen
import Derived.Test.YtfdlhdgmbjdhbaaMayF
import Derived.Test.YtfdlhdgmbjdhbaaListsT
import Derived.Test.YtfdlhdgmbjdhbaaLawIsOrientedBy
namespace Go.Proofs.Ytfdlhdgmbjdhbaa
open Go.ChangeShapes Go.WideShapes Go.ChangeAt Go.RowKit

set_option maxRecDepth 100000 in
set_option maxHeartbeats 800000 in
theorem fnExactIsOrientedBy_lifted (os : Os) (started : os.Started) (H : Type) (enc : TypeId × Value → H) :
    ReturnsInHanded {} Try.checked os 5 .any (Rows.fnExactIsOrientedBySpec.pre6 enc Try.prog Try.f5 Rows.fnExactIsOrientedByRow.domain false) (Rows.fnExactIsOrientedBySpec.post enc Try.prog Try.f5 false true false false) := by
  refine returnsInHanded_of_change (C := Try.checked) own started (by kernel_rfl) Try.func5
    (ChangeSpec.witness6 (enc := enc) (C := Try.checked) false ⟨#[], #[.agg #[.int .i64 0, .slice none 0 0], .slice none 0 0, .slice none 0 0], []⟩ 8 (by kernel_rfl) (by kernel_rfl) (by kernel_rfl) (by kernel_rfl)) ?_
  intro W base args ds gs before hval0 hW _ _
  have hval : ∀ (j : Nat) t v, Try.f5.params[j]? = some t → args[j]? = some v → Value.okWide Try.prog W .any base t v := hval0
  have hW' := hW
  obtain ⟨p, q, hA0, hV, rfl, _, _⟩ := hW
  have hA : DataW.TrodAll enc Try.prog W 0 (fun _ => true) true Try.f5.params.toList args.toList ds p := hA0
  rw [Try.params5] at hA hval
  obtain ⟨v0, vs0, d0, ds0, p0, q0, hargs, rfl, rfl, h0, r0⟩ := trodAll_cons hA
  obtain ⟨v1, vs1, d1, ds1, p1, q1, rfl, rfl, rfl, h1, r1⟩ := trodAll_cons r0
  obtain ⟨v2, vs2, d2, ds2, p2, q2, rfl, rfl, rfl, h2, r2⟩ := trodAll_cons r1
  obtain ⟨rfl, rfl, rfl⟩ := trodAll_nil r2
  obtain rfl : args = #[v0, v1, v2] := by cases args; simp_all
  obtain ⟨rfl, rfl⟩ := trodVars_none hV
  have k0 := h0
  have lt0 : ∀ x ∈ p0, x.block < W.heap.size := by obtain ⟨m, hm⟩ := k0; exact DataW.trod_lt m _ _ _ hm
  obtain ⟨s0, a0, n0, c0, es0, rfl, hl0, hn0, hs0⟩ := open_graph (hval 0 24 v0 rfl rfl) h0
  have k1 := h1
  have lt1 : ∀ x ∈ p1, x.block < W.heap.size := by obtain ⟨m, hm⟩ := k1; exact DataW.trod_lt m _ _ _ hm
  obtain ⟨a1, n1, c1, es1, rfl, hl1, hn1, hw1, hs1⟩ := open_lists (hval 1 35 v1 rfl rfl) h1
  have k2 := h2
  have lt2 : ∀ x ∈ p2, x.block < W.heap.size := by obtain ⟨m, hm⟩ := k2; exact DataW.trod_lt m _ _ _ hm
  obtain ⟨a2, n2, c2, es2, rfl, hl2, hn2, hs2⟩ := open_list (hval 2 41 v2 rfl rfl) h2
  clear hA0 hval0
  refine (lawIsOrientedBy_any s0 a0 n0 c0 es0 a1 n1 c1 es1 a2 n2 c2 es2 W hl0 hn0 hs0 hl1 hn1 hw1 hs1 hl2 hn2 hs2).mono fun e W' ⟨he, bel⟩ => ?_
  subst he
  exact ⟨_, rfl, _, _, _, [], _, [], hW', trodAll_mk1 (shut_bool Try.underlying4 _), (trodAll_cons_mk (Below.trod laidOut (by kernel_rfl) (of_decide_eq_true (by kernel_rfl)) k0 bel lt0) (trodAll_cons_mk (Below.trod laidOut (by kernel_rfl) (of_decide_eq_true (by kernel_rfl)) k1 bel lt1) (trodAll_cons_mk (Below.trod laidOut (by kernel_rfl) (of_decide_eq_true (by kernel_rfl)) k2 bel lt2) trodAll_mk0))), rfl, bel.frame _, fun h => by cases h⟩

theorem fnExactIsOrientedBy_name : Try.pinned.checked.prog.funcNamed Rows.fnExactIsOrientedByRow.func = some 5 := by kernel_rfl
theorem fnExactIsOrientedBy_facts : joinedFacts Try.pinned.checked.prog 5 Try.f5 Rows.fnExactIsOrientedBySpec Rows.fnExactIsOrientedByRow = true := by
  unfold joinedFacts
  rw [mayEnterT, liftsT _ rfl, makeT _ rfl]
  kernel_rfl
theorem fnExactIsOrientedBy_inst : Try.f5.isInstance Try.pinned.checked.prog Rows.fnExactIsOrientedByRow.origin Rows.fnExactIsOrientedByRow.targs := of_decide_eq_true (by kernel_rfl)
theorem fnExactIsOrientedBy_wrap : Try.f5.isWrapper Try.pinned.checked.prog Rows.fnExactIsOrientedByRow.wrapper Rows.fnExactIsOrientedByRow.mainSum := by unfold Func.isWrapper; rw [if_neg (of_decide_eq_false (by kernel_rfl))]; exact ⟨rfl, rfl⟩

theorem fnExactIsOrientedBy_holds : Rows.FnExactIsOrientedBySaid :=
  OpenClaim.holds_of_wide 5 Try.f5 rfl rfl rfl rfl rfl rfl rfl ⟨rfl, rfl, rfl, rfl, rfl⟩ rfl rfl rfl rfl rfl fnExactIsOrientedBy_name Try.func5 fnExactIsOrientedBy_facts fnExactIsOrientedBy_inst fnExactIsOrientedBy_wrap
    (fun os started H enc _ => fnExactIsOrientedBy_lifted os started H enc)

end Go.Proofs.Ytfdlhdgmbjdhbaa
