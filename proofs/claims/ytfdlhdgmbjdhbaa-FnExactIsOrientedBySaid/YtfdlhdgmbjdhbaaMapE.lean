/- Maps that are keyed by edges and hold bools, as the call makes them: sets of edges. -/
import Derived.Maps.OwnOps
import Derived.Maps.Views
import Derived.WideKeyPair
import Derived.DeepKeys4
import Derived.Test.YtfdlhdgmbjdhbaaLawsF
namespace Go.Proofs.Ytfdlhdgmbjdhbaa
open Go.RowKit Go.Maps Go.ChangeShapes Go.WideShapes Go.WideMaps

theorem edgeArr : ArrKey Try.prog 57 2 2 := ⟨Try.underlying57, by kernel_rfl, by kernel_rfl, by kernel_rfl⟩
theorem edgeLaw : Keyed Try.prog 57 := Keyed.of_law (deep_law_laid (by kernel_rfl) (m := 2) (by omega) (of_decide_eq_true (by kernel_rfl)) (by kernel_rfl) (by rw [Try.underlying57]))
theorem edgeKey {x y : Int} (wx : (Lit.int .i64 x).wf = true) (wy : (Lit.int .i64 y).wf = true) : keyOf Try.prog 57 (.agg #[.int .i64 x, .int .i64 y]) = some (.string (keyBytes [.int .i64 x, .int .i64 y])) :=
  keyOf_pair edgeArr Try.underlying2 ⟨Try.prog.types.size - 1, by kernel_rfl⟩ wx wy
theorem zeroB (w : World) : (zeroValue 4).run Try.prog w = .ok (.bool false) w := by kernel_rfl

theorem agg_two {a b c d : Int} (h : Value.agg #[.int .i64 a, .int .i64 b] = .agg #[.int .i64 c, .int .i64 d]) : a = c ∧ b = d := by
  injection h with h
  have h2 := congrArg Array.toList h
  simpa using h2
set_option maxRecDepth 100000 in
theorem plainElem_bool_inv {H : Type} {v : Value} {z : DataW H × List MemPlace} (h : plainElem Try.prog 4 v = some z) : ∃ c, v = .bool c ∧ z = (.lit (.bool c), []) := by
  have hu := Try.underlying4
  unfold plainElem at h
  split at h
  · exact ⟨_, rfl, (Option.some.inj h).symm⟩
  · rename_i e1; rw [hu] at e1; cases e1
  · rename_i e1; rw [hu] at e1; cases e1
  · cases h

/-- Block b is a map of at most n edges: those of a list have true. -/
def MapB (w : World) (b n : Nat) (S : List (Int × Int)) : Prop := ∃ D : DataW Unit, w.ownsMap Try.prog 57 (plainElem Try.prog 4) b n D ∧ IsMap D ∧
  ∀ x y kl, keyOf Try.prog 57 (.agg #[.int .i64 x, .int .i64 y]) = some kl → D.atKey kl (.lit (.bool false)) = .lit (.bool (decide ((x, y) ∈ S)))

section
variable {w w' : World} {b n : Nat} {S : List (Int × Int)}
theorem MapB.made (w : World) : MapB (w.alloc (.map #[] 0)) w.heap.size 0 [] :=
  ⟨.map [], World.ownsMap_made w _ _ _, isMap_empty, fun x y kl _ => by simp [DataW.atKey]⟩
theorem MapB.lt (h : MapB w b n S) : b < w.heap.size := h.choose_spec.1.lt
theorem MapB.kept {r : Option Nat} (h : MapB w b n S) (hg : w.grownBy w' r) (hne : some b ≠ r) : MapB w' b n S := by
  obtain ⟨D, h1, h2, h3⟩ := h
  exact ⟨D, h1.kept hg hne, h2, h3⟩
theorem MapB.on (h : MapB w b n S) (hb : Below w.heap.size w w') : MapB w' b n S := h.kept (below_grown hb) (by simp)
theorem MapB.drew (h : MapB w b n S) : MapB w.drew b n S := h
set_option maxRecDepth 100000 in
theorem MapB.look {T : TypeId} (h : MapB w b n S) (hT : Try.prog.underlying T = some (.map 57 4)) {x y : Int} (wx : (Lit.int .i64 x).wf = true) (wy : (Lit.int .i64 y).wf = true) :
    (Instr.lookup T (.map (some b)) (.agg #[.int .i64 x, .int .i64 y]) false).run Try.prog w = .ok (.bool (decide ((x, y) ∈ S))) w := by
  obtain ⟨D, h1, h2, h3⟩ := h
  obtain ⟨v, ps, hrun, hv⟩ := h1.lookup edgeLaw hT (zeroB w) (plainElem_bool Try.underlying4 false) (edgeKey wx wy)
  obtain ⟨c, rfl, hc⟩ := plainElem_bool_inv hv
  rw [h3 x y _ (edgeKey wx wy)] at hc
  simp only [Prod.mk.injEq, DataW.lit.injEq, Lit.bool.injEq] at hc
  rw [hrun, hc.1]
set_option maxRecDepth 100000 in
theorem MapB.put {T : TypeId} (h : MapB w b n S) (hT : Try.prog.underlying T = some (.map 57 4)) (hn : n < maxLen) {x y : Int} (wx : (Lit.int .i64 x).wf = true) (wy : (Lit.int .i64 y).wf = true) :
    ∃ w', (Instr.mapUpdate T (.map (some b)) (.agg #[.int .i64 x, .int .i64 y]) (.bool true)).run Try.prog w = .ok () w' ∧ MapB w' b (n + 1) (S ++ [(x, y)]) ∧ w.grownBy w' (some b) := by
  obtain ⟨D, h1, h2, h3⟩ := h
  obtain ⟨w', hrun, h4, h5⟩ := h1.update edgeLaw hT hn (edgeKey wx wy) (plainElem_bool Try.underlying4 true)
  refine ⟨w', hrun, ⟨_, h4, h2.put _ _, fun x' y' kl hk => ?_⟩, h5⟩
  by_cases e : kl = .string (keyBytes [.int .i64 x, .int .i64 y])
  · subst e
    rw [atKey_put_same h2 (edgeLaw.key hk)]
    have e2 := edgeLaw.inj hk (edgeKey wx wy)
    have e3 := agg_two e2
    rw [decide_eq_true (show (x', y') ∈ S ++ [(x, y)] by rw [e3.1, e3.2]; exact List.mem_append_right _ (List.mem_singleton.2 rfl))]
  · rw [atKey_put_other e, h3 x' y' kl hk]
    have hne : (x', y') ≠ (x, y) := fun h => e (by
      injection h with h6 h7
      subst h6; subst h7
      exact Option.some.inj (hk.symm.trans (edgeKey wx wy)))
    rw [show decide ((x', y') ∈ S ++ [(x, y)]) = decide ((x', y') ∈ S) from decide_eq_decide.2 ⟨fun h => (List.mem_append.1 h).elim id (fun h2 => absurd (List.mem_singleton.1 h2) hne), fun h => List.mem_append_left _ h⟩]
end

end Go.Proofs.Ytfdlhdgmbjdhbaa
