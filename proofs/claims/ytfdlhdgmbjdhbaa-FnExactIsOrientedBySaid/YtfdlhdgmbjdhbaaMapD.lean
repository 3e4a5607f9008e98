/- Maps that are keyed by directed edges and hold bools, as the call makes them: sets of directed edges. -/
import Derived.Maps.OwnOps
import Derived.Maps.OwnIn
import Derived.Maps.Views
import Derived.WideKeyPair
import Derived.DeepKeys4
import Derived.Test.YtfdlhdgmbjdhbaaLawsF
import Derived.Test.YtfdlhdgmbjdhbaaMapE
namespace Go

section
variable {F : Fence} {nF : Nat} {P : Program} (w : World) {ops : Array Oper} {rest : List Oper} {o : Oper} {a : Act} {Q : Exit → Act → World → Prop}
/-- A look-up without 'ok' whose run is known. -/
theorem wpListIn_lookup_run (hg : o.guard = none) (m x : Operand) (t : TypeId) (hop : o.op = Op.lookup t m x false) (M key v : Value) (hm : a.eval m = M) (hx : a.eval x = key)
    (hrun : (Instr.lookup t M key false).run P w = .ok v w) (hK : wpListIn F nF P ops Q rest (a.put o.dst v) w) : wpListIn F nF P ops Q (o :: rest) a w := by
  refine wpListIn_plain hg fun K' hK' => ?_
  unfold Oper.wpIn
  refine ⟨by simp [Oper.about, hop], ?_⟩
  rw [Oper.semAt_plain F _ _ (by rw [hop]; intro c hc'; cases hc')]
  simp [execOp, hop, hm, hx, hrun, Result.andThen]
  exact hK' _ _ hK
/-- A store into a map whose run is known. -/
theorem wpListIn_mapUpdate_run (hg : o.guard = none) (m x v : Operand) (t : TypeId) (hop : o.op = Op.mapUpdate t m x v) (M key val : Value) (hm : a.eval m = M) (hx : a.eval x = key) (hv : a.eval v = val) (w' : World)
    (hrun : (Instr.mapUpdate t M key val).run P w = .ok () w') (hK : wpListIn F nF P ops Q rest (a.put o.dst undef) w') : wpListIn F nF P ops Q (o :: rest) a w := by
  refine wpListIn_plain hg fun K' hK' => ?_
  unfold Oper.wpIn
  refine ⟨by simp [Oper.about, hop], ?_⟩
  rw [Oper.semAt_plain F _ _ (by rw [hop]; intro c hc'; cases hc')]
  simp [execOp, hop, hm, hx, hv, hrun, Result.andThen]
  exact hK' _ _ hK
end

end Go
namespace Go.Proofs.Ytfdlhdgmbjdhbaa
open Go.RowKit Go.Maps Go.ChangeShapes Go.WideShapes Go.WideMaps

theorem dirLaw : Keyed Try.prog 118 := Keyed.of_law (deep_law_laid (by kernel_rfl) (m := 2) (by omega) (of_decide_eq_true (by kernel_rfl)) (by kernel_rfl) (by rw [Try.underlying118]))
theorem dirKeyT : Try.prog.keyType 118 = true := by kernel_rfl
theorem dirCells : Try.prog.cellsOf 118 = 3 := by kernel_rfl
theorem intCells : Try.prog.cellsOf 2 = 1 := by kernel_rfl
theorem progTypes : ∃ m, Try.prog.types.size = m + 1 + 1 := ⟨Try.prog.types.size - 2, by kernel_rfl⟩
theorem dirKey {x y z : Int} (wx : (Lit.int .i64 x).wf = true) (wy : (Lit.int .i64 y).wf = true) (wz : (Lit.int .i64 z).wf = true) : keyOf Try.prog 118 (.agg #[.int .i64 x, .int .i64 y, .int .i64 z]) = some (.string (keyBytes [.int .i64 x, .int .i64 y, .int .i64 z])) := by
  obtain ⟨m, hm⟩ := progTypes
  have hu := Try.underlying118
  have he := Try.underlying2
  unfold keyOf
  simp only [hu]
  rw [if_pos (by simp [dirKeyT, Value.formed, hu, dirCells]), hm]
  unfold Program.keyLits
  simp only [hu, Value.cells]
  rw [if_pos (by simp [dirCells])]
  simp [intCells, Program.keyLits, he, wx, wy, wz]
theorem agg_three {a b e c d f : Int} (h : Value.agg #[.int .i64 a, .int .i64 b, .int .i64 e] = .agg #[.int .i64 c, .int .i64 d, .int .i64 f]) : a = c ∧ b = d ∧ e = f := by
  injection h with h
  have h2 := congrArg Array.toList h
  simpa using h2

/-- Block b is a map of at most n directed edges: those of a list have true. -/
def MapD (w : World) (b n : Nat) (S : List (Int × Int × Int)) : Prop := ∃ D : DataW Unit, w.ownsMap Try.prog 118 (plainElem Try.prog 4) b n D ∧ IsMap D ∧
  ∀ x y z kl, keyOf Try.prog 118 (.agg #[.int .i64 x, .int .i64 y, .int .i64 z]) = some kl → D.atKey kl (.lit (.bool false)) = .lit (.bool (decide ((x, y, z) ∈ S)))

section
variable {w w' : World} {b n : Nat} {S : List (Int × Int × Int)}
theorem MapD.made (w : World) : MapD (w.alloc (.map #[] 0)) w.heap.size 0 [] :=
  ⟨.map [], World.ownsMap_made w _ _ _, isMap_empty, fun x y z kl _ => by simp [DataW.atKey]⟩
theorem MapD.lt (h : MapD w b n S) : b < w.heap.size := h.choose_spec.1.lt
theorem MapD.kept {r : Option Nat} (h : MapD w b n S) (hg : w.grownBy w' r) (hne : some b ≠ r) : MapD w' b n S := by
  obtain ⟨D, h1, h2, h3⟩ := h
  exact ⟨D, h1.kept hg hne, h2, h3⟩
theorem MapD.on (h : MapD w b n S) (hb : Below w.heap.size w w') : MapD w' b n S := h.kept (below_grown hb) (by simp)
theorem MapD.drew (h : MapD w b n S) : MapD w.drew b n S := h
set_option maxRecDepth 100000 in
theorem MapD.look {T : TypeId} (h : MapD w b n S) (hT : Try.prog.underlying T = some (.map 118 4)) {x y z : Int} (wx : (Lit.int .i64 x).wf = true) (wy : (Lit.int .i64 y).wf = true) (wz : (Lit.int .i64 z).wf = true) :
    (Instr.lookup T (.map (some b)) (.agg #[.int .i64 x, .int .i64 y, .int .i64 z]) false).run Try.prog w = .ok (.bool (decide ((x, y, z) ∈ S))) w := by
  obtain ⟨D, h1, h2, h3⟩ := h
  obtain ⟨v, ps, hrun, hv⟩ := h1.lookup dirLaw hT (zeroB w) (plainElem_bool Try.underlying4 false) (dirKey wx wy wz)
  obtain ⟨c, rfl, hc⟩ := plainElem_bool_inv hv
  rw [h3 x y z _ (dirKey wx wy wz)] at hc
  simp only [Prod.mk.injEq, DataW.lit.injEq, Lit.bool.injEq] at hc
  rw [hrun, hc.1]
set_option maxRecDepth 100000 in
theorem MapD.put {T : TypeId} (h : MapD w b n S) (hT : Try.prog.underlying T = some (.map 118 4)) (hn : n < maxLen) {x y z : Int} (wx : (Lit.int .i64 x).wf = true) (wy : (Lit.int .i64 y).wf = true) (wz : (Lit.int .i64 z).wf = true) :
    ∃ w', (Instr.mapUpdate T (.map (some b)) (.agg #[.int .i64 x, .int .i64 y, .int .i64 z]) (.bool true)).run Try.prog w = .ok () w' ∧ MapD w' b (n + 1) (S ++ [(x, y, z)]) ∧ w.grownBy w' (some b) := by
  obtain ⟨D, h1, h2, h3⟩ := h
  obtain ⟨w', hrun, h4, h5⟩ := h1.update dirLaw hT hn (dirKey wx wy wz) (plainElem_bool Try.underlying4 true)
  refine ⟨w', hrun, ⟨_, h4, h2.put _ _, fun x' y' z' kl hk => ?_⟩, h5⟩
  by_cases e : kl = .string (keyBytes [.int .i64 x, .int .i64 y, .int .i64 z])
  · subst e
    rw [atKey_put_same h2 (dirLaw.key hk)]
    have e2 := dirLaw.inj hk (dirKey wx wy wz)
    have e3 := agg_three e2
    rw [decide_eq_true (show (x', y', z') ∈ S ++ [(x, y, z)] by rw [e3.1, e3.2.1, e3.2.2]; exact List.mem_append_right _ (List.mem_singleton.2 rfl))]
  · rw [atKey_put_other e, h3 x' y' z' kl hk]
    have hne : (x', y', z') ≠ (x, y, z) := fun h => e (by
      simp only [Prod.mk.injEq] at h
      obtain ⟨rfl, rfl, rfl⟩ := h
      exact Option.some.inj (hk.symm.trans (dirKey wx wy wz)))
    rw [show decide ((x', y', z') ∈ S ++ [(x, y, z)]) = decide ((x', y', z') ∈ S) from decide_eq_decide.2 ⟨fun h => (List.mem_append.1 h).elim id (fun h2 => absurd (List.mem_singleton.1 h2) hne), fun h => List.mem_append_left _ h⟩]
end

end Go.Proofs.Ytfdlhdgmbjdhbaa
