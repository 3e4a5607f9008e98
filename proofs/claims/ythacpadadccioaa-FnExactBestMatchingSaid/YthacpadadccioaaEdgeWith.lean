/- The edge with a colour at a vertex, in the program: edgeWith. -/
import Derived.Test.YthacpadadccioaaIterB
import Derived.Test.YthacpadadccioaaDist
import Derived.Test.YthacpadadccioaaChnB
import Derived.BigQuiet
namespace Go.Proofs.Ythacpadadccioaa
open Go.RowKit Go.Shelf

attribute [local go_sem] Oper.semAt_some

theorem boxed_at (w : World) (g : Nat) (t : TypeId) (v : Value) (hg : g = w.heap.size) : Boxed (w.alloc (.cells #[v] t)) g t v := by subst hg; exact Boxed.new w t v
theorem box_at (w : World) (g : Nat) (s : Int) (q : Option Addr) (n cap : Nat) (t : TypeId) (hg : g = w.heap.size) : Box (w.alloc (.cells #[.int .i64 s, .slice q n cap] t)) g s q n cap := by subst hg; exact Box.new w s q n cap t
/-- The two results, read out of their cells. -/
theorem results_two {fn : Func} {p q : Tmp} (h : fn.results = #[.cell p 2, .cell q 2]) (tmps : Array Value) (w : World) (g1 g2 : Nat) (x y : Int) (h1 : tmps.getD p undef = .pointer (some ⟨g1, 0, none⟩)) (h2 : tmps.getD q undef = .pointer (some ⟨g2, 0, none⟩)) (hx : Boxed w g1 2 (.int .i64 x)) (hy : Boxed w g2 2 (.int .i64 y)) :
    (results fn tmps).run Try.prog w = .ok (.tuple #[.int .i64 x, .int .i64 y]) w := by
  have e1 : tmps[p]?.getD undef = .pointer (some ⟨g1, 0, none⟩) := by simpa using h1
  have e2 : tmps[q]?.getD undef = .pointer (some ⟨g2, 0, none⟩) := by simpa using h2
  have ha : (isAgg 2).run Try.prog w = .ok false w := by
    unfold isAgg
    rw [Sem.run_bind, run_underlying Try.underlying2 w]
    rfl
  have c1 := hx.cell
  have c2 := hy.cell
  simp [results, h, e1, e2, asAddr, loadVar, Sem.run_bind, ha, c1, c2, Result.andThen]

end Go.Proofs.Ythacpadadccioaa
