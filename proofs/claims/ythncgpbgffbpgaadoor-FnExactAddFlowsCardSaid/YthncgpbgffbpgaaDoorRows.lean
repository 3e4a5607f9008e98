/-
  NARROWER THAN 'FOR EVERY INPUT', by the rows' own cells (each row's printed sentence says how): FnExactIsFlow: ifaces, laid · FnExactIsNowhereZero: ifaces, laid · FnExactIsWholeFlow: ifaces, laid · FnExactAddFlows: ifaces, laid.
  DERIVED. THE GIVEN ROWS OF THIS SEAT. 4 by the template 'for every input the law returns true; each argument reads behind the call as it read before'; 0 by the template 'total and deterministic' (their statements: YthncgpbgffbpgaaDoorTotals.lean).
  GIVEN WITH THE SEED: the statements are not yours to turn. If you find one false, say at which input.
  Laid BY PROGRAM, IN A SANDBOX (cutbox-rows.mjs): the forced cells as the released guide's own fill.sh prints them over the translation 8c5f290a612c1a74… (all of the seat's roots in one cut). By AI agents, Wed Nov 11 2026. No macro, syntax, notation, axiom, sorry.
-/
import Derived.Test.YthncgpbgffbpgaaDoorChecked
import GoSem.Claim
import GoSem.ClaimJoined
import GoSem.ClaimMapViews
import Derived.JoinedTies
import Derived.KernelRfl
namespace Go.Proofs.YthncgpbgffbpgaaDoor
/- THE CELL 'sum', in the pinned program and in every row, IS THE sha256 OF THE DUMP (.gsa) THAT YthncgpbgffbpgaaDoorProg.lean LOADS. Nothing in Lean hashes anything: it is a label: what it is worth is what the hold of that sum in a sandbox is worth. -/
noncomputable def Tryd.pinned : Pinned := { name := "ythncgpbgffbpgaadoor", sum := "8c5f290a612c1a74759bb9fdb6e550e4a0f0183729899f30fa4f321a25e9ef93", checked := Tryd.checked }
namespace Rows
def none {H : Type} : Left H := { results := [], args := [] }

/- WHAT THE LISTED PACKAGE-LEVEL VARIABLES READ AS WHEN THE CALL BEGINS. Each datum BY PROGRAM (the guide's laid-datum.mjs) off the statement by which the dump's own 'gosem.cut.vars' lays the variable. In a bare row this is a premise. The card (YthncgpbgffbpgaaDoorCards.lean) ties it to the program's text. -/
def laid_loop_example_g01329_impl_errNoFlow {H : Type} : DataW H := .iface "*errors.errorString" (.ptr (.agg [.lit (.string [116, 104, 101, 32, 115, 117, 109, 115, 32, 97, 116, 32, 97, 32, 118, 101, 114, 116, 101, 120, 32, 97, 114, 101, 32, 110, 111, 116, 32, 101, 113, 117, 97, 108])]))

/-- 'laws.FnExactIsFlow': WHATEVER THE INPUT: true; the input reads as it did. -/
def fnExactIsFlowSpec : ChangeSpec := { name := "fnExactIsFlow", vars := ["loop.example/g01329/impl.errNoFlow"], fn := fun _ => fun
  | [d1, d2, d3, g1] => { results := [.lit (.bool true)], args := [d1, d2, d3], vars := [g1] }
  | _ => none }
def fnExactIsFlowRow : OpenClaim := { program := "ythncgpbgffbpgaadoor", sum := "8c5f290a612c1a74759bb9fdb6e550e4a0f0183729899f30fa4f321a25e9ef93", func := "loop.example/g01329/laws.FnExactIsFlow", spec := "fnExactIsFlow", unfollowed := true, recurses := true, named := ["loop.example/g01329/impl.errNoFlow"], ifaces := true, apart := false, laid := [("loop.example/g01329/impl.errNoFlow", laid_loop_example_g01329_impl_errNoFlow)] }
def FnExactIsFlowSaid : Prop := fnExactIsFlowRow.holds Tryd.pinned (OpenSpec.ofChange fnExactIsFlowSpec)

/-- ITS FALSE NEIGHBOUR: 'it returns false'. Refute it at one input. -/
def fnExactIsFlowWrong : ChangeSpec := { name := "fnExactIsFlow", vars := ["loop.example/g01329/impl.errNoFlow"], fn := fun _ => fun
  | [d1, d2, d3, g1] => { results := [.lit (.bool false)], args := [d1, d2, d3], vars := [g1] }
  | _ => none }
def FnExactIsFlowWrongFalsely : Prop := fnExactIsFlowRow.holds Tryd.pinned (OpenSpec.ofChange fnExactIsFlowWrong)

/-- 'laws.FnExactIsNowhereZero': WHATEVER THE INPUT: true; the input reads as it did. -/
def fnExactIsNowhereZeroSpec : ChangeSpec := { name := "fnExactIsNowhereZero", vars := ["loop.example/g01329/impl.errNoFlow"], fn := fun _ => fun
  | [d1, d2, d3, g1] => { results := [.lit (.bool true)], args := [d1, d2, d3], vars := [g1] }
  | _ => none }
def fnExactIsNowhereZeroRow : OpenClaim := { program := "ythncgpbgffbpgaadoor", sum := "8c5f290a612c1a74759bb9fdb6e550e4a0f0183729899f30fa4f321a25e9ef93", func := "loop.example/g01329/laws.FnExactIsNowhereZero", spec := "fnExactIsNowhereZero", unfollowed := true, recurses := true, named := ["loop.example/g01329/impl.errNoFlow"], ifaces := true, apart := false, laid := [("loop.example/g01329/impl.errNoFlow", laid_loop_example_g01329_impl_errNoFlow)] }
def FnExactIsNowhereZeroSaid : Prop := fnExactIsNowhereZeroRow.holds Tryd.pinned (OpenSpec.ofChange fnExactIsNowhereZeroSpec)

/-- ITS FALSE NEIGHBOUR: 'it returns false'. Refute it at one input. -/
def fnExactIsNowhereZeroWrong : ChangeSpec := { name := "fnExactIsNowhereZero", vars := ["loop.example/g01329/impl.errNoFlow"], fn := fun _ => fun
  | [d1, d2, d3, g1] => { results := [.lit (.bool false)], args := [d1, d2, d3], vars := [g1] }
  | _ => none }
def FnExactIsNowhereZeroWrongFalsely : Prop := fnExactIsNowhereZeroRow.holds Tryd.pinned (OpenSpec.ofChange fnExactIsNowhereZeroWrong)

/-- 'laws.FnExactIsWholeFlow': WHATEVER THE INPUT: true; the input reads as it did. -/
def fnExactIsWholeFlowSpec : ChangeSpec := { name := "fnExactIsWholeFlow", vars := ["loop.example/g01329/impl.errNoFlow"], fn := fun _ => fun
  | [d1, d2, d3, g1] => { results := [.lit (.bool true)], args := [d1, d2, d3], vars := [g1] }
  | _ => none }
def fnExactIsWholeFlowRow : OpenClaim := { program := "ythncgpbgffbpgaadoor", sum := "8c5f290a612c1a74759bb9fdb6e550e4a0f0183729899f30fa4f321a25e9ef93", func := "loop.example/g01329/laws.FnExactIsWholeFlow", spec := "fnExactIsWholeFlow", unfollowed := true, recurses := true, named := ["loop.example/g01329/impl.errNoFlow"], ifaces := true, apart := false, laid := [("loop.example/g01329/impl.errNoFlow", laid_loop_example_g01329_impl_errNoFlow)] }
def FnExactIsWholeFlowSaid : Prop := fnExactIsWholeFlowRow.holds Tryd.pinned (OpenSpec.ofChange fnExactIsWholeFlowSpec)

/-- ITS FALSE NEIGHBOUR: 'it returns false'. Refute it at one input. -/
def fnExactIsWholeFlowWrong : ChangeSpec := { name := "fnExactIsWholeFlow", vars := ["loop.example/g01329/impl.errNoFlow"], fn := fun _ => fun
  | [d1, d2, d3, g1] => { results := [.lit (.bool false)], args := [d1, d2, d3], vars := [g1] }
  | _ => none }
def FnExactIsWholeFlowWrongFalsely : Prop := fnExactIsWholeFlowRow.holds Tryd.pinned (OpenSpec.ofChange fnExactIsWholeFlowWrong)

/-- 'laws.FnExactAddFlows': WHATEVER THE INPUT: true; the input reads as it did. -/
def fnExactAddFlowsSpec : ChangeSpec := { name := "fnExactAddFlows", vars := ["loop.example/g01329/impl.errNoFlow"], fn := fun _ => fun
  | [d1, d2, d3, d4, g1] => { results := [.lit (.bool true)], args := [d1, d2, d3, d4], vars := [g1] }
  | _ => none }
def fnExactAddFlowsRow : OpenClaim := { program := "ythncgpbgffbpgaadoor", sum := "8c5f290a612c1a74759bb9fdb6e550e4a0f0183729899f30fa4f321a25e9ef93", func := "loop.example/g01329/laws.FnExactAddFlows", spec := "fnExactAddFlows", unfollowed := true, recurses := true, named := ["loop.example/g01329/impl.errNoFlow"], ifaces := true, apart := false, laid := [("loop.example/g01329/impl.errNoFlow", laid_loop_example_g01329_impl_errNoFlow)] }
def FnExactAddFlowsSaid : Prop := fnExactAddFlowsRow.holds Tryd.pinned (OpenSpec.ofChange fnExactAddFlowsSpec)

/-- ITS FALSE NEIGHBOUR: 'it returns false'. Refute it at one input. -/
def fnExactAddFlowsWrong : ChangeSpec := { name := "fnExactAddFlows", vars := ["loop.example/g01329/impl.errNoFlow"], fn := fun _ => fun
  | [d1, d2, d3, d4, g1] => { results := [.lit (.bool false)], args := [d1, d2, d3, d4], vars := [g1] }
  | _ => none }
def FnExactAddFlowsWrongFalsely : Prop := fnExactAddFlowsRow.holds Tryd.pinned (OpenSpec.ofChange fnExactAddFlowsWrong)

/- THE SECOND FORM. 'bulk': how many values and letters a reading holds, each counted each time it is reached (what is shared counts as often as it is met; a slice's spare places count too). A statement '..UptoSaid' is the law's where the arguments, and the package variables that the reading takes, are together of bulk at most 1048576: NARROWER than '..Said'. Prove '..Said' where nothing that the law and all that it calls make is longer than what came in: it says more and counts as full. Else prove '..UptoSaid'. A law counts once. -/
mutual
def uptoBulk {H : Type} : DataW H → Nat
  | .lit (.string bytes) => bytes.length + 1
  | .lit _ => 1
  | .nil => 1
  | .ptr d => uptoBulk d + 1
  | .slice elems spare => uptoBulkAll elems + uptoBulkAll spare + 1
  | .agg parts => uptoBulkAll parts + 1
  | .iface _ d => uptoBulk d + 1
  | .map entries => uptoBulkEntries entries + 1
  | .held _ => 1
def uptoBulkAll {H : Type} : List (DataW H) → Nat
  | [] => 0
  | d :: r => uptoBulk d + uptoBulkAll r
def uptoBulkEntries {H : Type} : List (Lit × DataW H) → Nat
  | [] => 0
  | x :: r => uptoBulkEntry x + uptoBulkEntries r
def uptoBulkEntry {H : Type} : Lit × DataW H → Nat
  | (.string bytes, d) => bytes.length + uptoBulk d + 1
  | (_, d) => uptoBulk d + 1
 end
def uptoSmall : (H : Type) → List (DataW H) → Bool := fun _ ds => decide (uptoBulkAll ds ≤ 1048576)
def OpenSpec.upto (s : _root_.Go.ChangeSpec) : _root_.Go.OpenSpec := { _root_.Go.OpenSpec.ofChange s with cond := some uptoSmall }

/-- 'laws.FnExactIsFlow', WHERE WHAT IT READS IS OF BULK AT MOST 1048576: true; the input reads as it did. -/
def fnExactIsFlowUptoRow : OpenClaim := { program := "ythncgpbgffbpgaadoor", sum := "8c5f290a612c1a74759bb9fdb6e550e4a0f0183729899f30fa4f321a25e9ef93", func := "loop.example/g01329/laws.FnExactIsFlow", spec := "fnExactIsFlow", unfollowed := true, recurses := true, named := ["loop.example/g01329/impl.errNoFlow"], ifaces := true, apart := false, laid := [("loop.example/g01329/impl.errNoFlow", laid_loop_example_g01329_impl_errNoFlow)], narrowed := true }
def FnExactIsFlowUptoSaid : Prop := fnExactIsFlowUptoRow.holds Tryd.pinned (OpenSpec.upto fnExactIsFlowSpec)

/-- 'laws.FnExactIsNowhereZero', WHERE WHAT IT READS IS OF BULK AT MOST 1048576: true; the input reads as it did. -/
def fnExactIsNowhereZeroUptoRow : OpenClaim := { program := "ythncgpbgffbpgaadoor", sum := "8c5f290a612c1a74759bb9fdb6e550e4a0f0183729899f30fa4f321a25e9ef93", func := "loop.example/g01329/laws.FnExactIsNowhereZero", spec := "fnExactIsNowhereZero", unfollowed := true, recurses := true, named := ["loop.example/g01329/impl.errNoFlow"], ifaces := true, apart := false, laid := [("loop.example/g01329/impl.errNoFlow", laid_loop_example_g01329_impl_errNoFlow)], narrowed := true }
def FnExactIsNowhereZeroUptoSaid : Prop := fnExactIsNowhereZeroUptoRow.holds Tryd.pinned (OpenSpec.upto fnExactIsNowhereZeroSpec)

/-- 'laws.FnExactIsWholeFlow', WHERE WHAT IT READS IS OF BULK AT MOST 1048576: true; the input reads as it did. -/
def fnExactIsWholeFlowUptoRow : OpenClaim := { program := "ythncgpbgffbpgaadoor", sum := "8c5f290a612c1a74759bb9fdb6e550e4a0f0183729899f30fa4f321a25e9ef93", func := "loop.example/g01329/laws.FnExactIsWholeFlow", spec := "fnExactIsWholeFlow", unfollowed := true, recurses := true, named := ["loop.example/g01329/impl.errNoFlow"], ifaces := true, apart := false, laid := [("loop.example/g01329/impl.errNoFlow", laid_loop_example_g01329_impl_errNoFlow)], narrowed := true }
def FnExactIsWholeFlowUptoSaid : Prop := fnExactIsWholeFlowUptoRow.holds Tryd.pinned (OpenSpec.upto fnExactIsWholeFlowSpec)

/-- 'laws.FnExactAddFlows', WHERE WHAT IT READS IS OF BULK AT MOST 1048576: true; the input reads as it did. -/
def fnExactAddFlowsUptoRow : OpenClaim := { program := "ythncgpbgffbpgaadoor", sum := "8c5f290a612c1a74759bb9fdb6e550e4a0f0183729899f30fa4f321a25e9ef93", func := "loop.example/g01329/laws.FnExactAddFlows", spec := "fnExactAddFlows", unfollowed := true, recurses := true, named := ["loop.example/g01329/impl.errNoFlow"], ifaces := true, apart := false, laid := [("loop.example/g01329/impl.errNoFlow", laid_loop_example_g01329_impl_errNoFlow)], narrowed := true }
def FnExactAddFlowsUptoSaid : Prop := fnExactAddFlowsUptoRow.holds Tryd.pinned (OpenSpec.upto fnExactAddFlowsSpec)

end Rows
end Go.Proofs.YthncgpbgffbpgaaDoor
