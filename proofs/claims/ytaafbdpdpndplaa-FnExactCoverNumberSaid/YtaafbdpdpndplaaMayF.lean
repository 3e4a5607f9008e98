/- Facts of the whole program that each row asks. -/
import Derived.Test.YtaafbdpdpndplaaOpen
namespace Go.Proofs.Ytaafbdpdpndplaa
open Go.ChangeShapes Go.WideShapes Go.ChangeAt Go.RowKit

theorem mayEnterT : Try.pinned.checked.prog.mayEnter = true := by kernel_rfl
theorem liftsT0 : Try.pinned.checked.prog.liftsFinal = false := by kernel_rfl
theorem liftsT (c : OpenClaim) (h : c.lifted = false) : (c.lifted == Try.pinned.checked.prog.liftsFinal) = true := by rw [h, liftsT0]; rfl
theorem makeT0 : (Try.pinned.checked.prog.make == some Make.cut) = true := by kernel_rfl
theorem makeT (c : OpenClaim) (h : c.make = .cut) : (Try.pinned.checked.prog.make == some c.make) = true := by rw [h]; exact makeT0

end Go.Proofs.Ytaafbdpdpndplaa
