/- The package-level variable impl.errNoFlow, as its own text lays it: what a walk gets of it, and a world that has it. -/
import Derived.Test.YthncgpbgffbpgaaDoorOpen
import Derived.ChangeSame
import Derived.ChangeVars
import Derived.JoinedOf
import Derived.RowKitTokens
import Derived.LaidLaws
import Derived.Stop.ErrReads
import Derived.Stop.LaidErr
namespace Go.Proofs.YthncgpbgffbpgaaDoor
open Go.ChangeShapes Go.WideShapes Go.RowKit

theorem gN : Tryd.prog.globalNamed "loop.example/g01329/impl.errNoFlow" = some 0 := by kernel_rfl
theorem gNT : (Tryd.prog.globals[0]?).map (·.type) = some 48 := by kernel_rfl
theorem cellsES : Tryd.prog.cellsOf 121 = 1 := by kernel_rfl
theorem cellsSt : Tryd.prog.cellsOf 9 = 1 := by kernel_rfl
theorem starES : "*" ++ "errors.errorString" = "*errors.errorString" := by decide
theorem errRow (u : TypeId) (h : Tryd.prog.typeName? 3 u = some "*errors.errorString") : u = 104 :=
  typeName_ptr_named (nm := "errors.errorString") (by rw [starES]; kernel_rfl) (by kernel_rfl) (by decide) u (by rw [starES]; exact h)

abbrev noFlowS : ByteArray := { data := #[116, 104, 101, 32, 115, 117, 109, 115, 32, 97, 116, 32, 97, 32, 118, 101, 114, 116, 101, 120, 32, 97, 114, 101, 32, 110, 111, 116, 32, 101, 113, 117, 97, 108] }
noncomputable def lowD : Nat := (World.holding Tryd.prog default ⟨#[], #[], []⟩).heap.size
noncomputable def laidWorld (os : Os) : World :=
  let w0 := World.holding Tryd.prog os ⟨#[.cells #[.string noFlowS] 121], #[], []⟩
  { w0 with heap := w0.heap.modify 0 fun
      | .cells _ t frozen => .cells #[.iface 104 (.pointer (some ⟨lowD, 0, none⟩))] t frozen
      | o => o }
theorem laidWorld_met (os : Os) (args : Array Value) : laidMet Tryd.prog [("loop.example/g01329/impl.errNoFlow", Rows.laid_loop_example_g01329_impl_errNoFlow)] ((laidWorld os).forCall (fun _ _ => 0) ⟨#[], args, []⟩).memory :=
  laidMet_of_run (ps := [.cell 0 0, .cell lowD 0]) 8 (by kernel_rfl) (by kernel_rfl) (by kernel_rfl)
theorem var_belowD {W W' : World} {cs : Array Value} (h : W.var? Tryd.prog "loop.example/g01329/impl.errNoFlow" = some cs) (hb : Below W.heap.size W W') : W'.var? Tryd.prog "loop.example/g01329/impl.errNoFlow" = some cs := by
  unfold World.var? at h ⊢
  rw [gN] at h ⊢
  simp only [Option.bind_some] at h ⊢
  have hlt : 0 < W.heap.size := by
    rcases Nat.lt_or_ge 0 W.heap.size with h' | h'
    · exact h'
    · rw [Array.getElem?_eq_none h'] at h; cases h
  rw [hb.block 0 hlt]
  exact h

end Go.Proofs.YthncgpbgffbpgaaDoor
