/-
  No cell of these rows narrows 'for every input' (looked for: loops, veiled, ifaces, maps, wideKeys, modest, calm, conditions, laid).
  DERIVED. THE GIVEN ROWS OF THIS SEAT. 3 by the template 'for every input the law returns true; each argument reads behind the call as it read before'; 0 by the template 'total and deterministic' (their statements: YthncgpbgffbpgaaTotals.lean).
  GIVEN WITH THE SEED: the statements are not yours to turn. If you find one false, say at which input.
  Laid BY PROGRAM, IN A SANDBOX (cutbox-rows.mjs): the forced cells as the released guide's own fill.sh prints them over the translation fc15028bfa588cbb… (all of the seat's roots in one cut). By AI agents, Wed Nov 11 2026. No macro, syntax, notation, axiom, sorry.
-/
import Derived.Test.YthncgpbgffbpgaaChecked
import GoSem.Claim
import GoSem.ClaimJoined
import GoSem.ClaimMapViews
import Derived.JoinedTies
import Derived.KernelRfl
namespace Go.Proofs.Ythncgpbgffbpgaa
/- THE CELL 'sum', in the pinned program and in every row, IS THE sha256 OF THE DUMP (.gsa) THAT YthncgpbgffbpgaaProg.lean LOADS. Nothing in Lean hashes anything: it is a label: what it is worth is what the hold of that sum in a sandbox is worth. -/
noncomputable def Try.pinned : Pinned := { name := "ythncgpbgffbpgaa", sum := "fc15028bfa588cbb4cf20db6fef868bac7f433c2a7c1bea285571974263f9549", checked := Try.checked }
namespace Rows
def none {H : Type} : Left H := { results := [], args := [] }

/-- 'laws.FnExactCyclesLeft': WHATEVER THE INPUT: true; the input reads as it did. -/
def fnExactCyclesLeftSpec : ChangeSpec := { name := "fnExactCyclesLeft", fn := fun _ => fun
  | [d1, d2] => { results := [.lit (.bool true)], args := [d1, d2] }
  | _ => none }
def fnExactCyclesLeftRow : OpenClaim := { program := "ythncgpbgffbpgaa", sum := "fc15028bfa588cbb4cf20db6fef868bac7f433c2a7c1bea285571974263f9549", func := "loop.example/g01329/laws.FnExactCyclesLeft", spec := "fnExactCyclesLeft", unfollowed := true, recurses := true, apart := false }
def FnExactCyclesLeftSaid : Prop := fnExactCyclesLeftRow.holds Try.pinned (OpenSpec.ofChange fnExactCyclesLeftSpec)

/-- ITS FALSE NEIGHBOUR: 'it returns false'. Refute it at one input. -/
def fnExactCyclesLeftWrong : ChangeSpec := { name := "fnExactCyclesLeft", fn := fun _ => fun
  | [d1, d2] => { results := [.lit (.bool false)], args := [d1, d2] }
  | _ => none }
def FnExactCyclesLeftWrongFalsely : Prop := fnExactCyclesLeftRow.holds Try.pinned (OpenSpec.ofChange fnExactCyclesLeftWrong)

/-- 'laws.FnExactColouringOf': WHATEVER THE INPUT: true; the input reads as it did. -/
def fnExactColouringOfSpec : ChangeSpec := { name := "fnExactColouringOf", fn := fun _ => fun
  | [d1, d2] => { results := [.lit (.bool true)], args := [d1, d2] }
  | _ => none }
def fnExactColouringOfRow : OpenClaim := { program := "ythncgpbgffbpgaa", sum := "fc15028bfa588cbb4cf20db6fef868bac7f433c2a7c1bea285571974263f9549", func := "loop.example/g01329/laws.FnExactColouringOf", spec := "fnExactColouringOf", unfollowed := true, recurses := true, apart := false }
def FnExactColouringOfSaid : Prop := fnExactColouringOfRow.holds Try.pinned (OpenSpec.ofChange fnExactColouringOfSpec)

/-- ITS FALSE NEIGHBOUR: 'it returns false'. Refute it at one input. -/
def fnExactColouringOfWrong : ChangeSpec := { name := "fnExactColouringOf", fn := fun _ => fun
  | [d1, d2] => { results := [.lit (.bool false)], args := [d1, d2] }
  | _ => none }
def FnExactColouringOfWrongFalsely : Prop := fnExactColouringOfRow.holds Try.pinned (OpenSpec.ofChange fnExactColouringOfWrong)

/-- 'laws.FnExactFlowDimension': WHATEVER THE INPUT: true; the input reads as it did. -/
def fnExactFlowDimensionSpec : ChangeSpec := { name := "fnExactFlowDimension", fn := fun _ => fun
  | [d] => { results := [.lit (.bool true)], args := [d] }
  | _ => none }
def fnExactFlowDimensionRow : OpenClaim := { program := "ythncgpbgffbpgaa", sum := "fc15028bfa588cbb4cf20db6fef868bac7f433c2a7c1bea285571974263f9549", func := "loop.example/g01329/laws.FnExactFlowDimension", spec := "fnExactFlowDimension", unfollowed := true, recurses := true, apart := false }
def FnExactFlowDimensionSaid : Prop := fnExactFlowDimensionRow.holds Try.pinned (OpenSpec.ofChange fnExactFlowDimensionSpec)

/-- ITS FALSE NEIGHBOUR: 'it returns false'. Refute it at one input. -/
def fnExactFlowDimensionWrong : ChangeSpec := { name := "fnExactFlowDimension", fn := fun _ => fun
  | [d] => { results := [.lit (.bool false)], args := [d] }
  | _ => none }
def FnExactFlowDimensionWrongFalsely : Prop := fnExactFlowDimensionRow.holds Try.pinned (OpenSpec.ofChange fnExactFlowDimensionWrong)

/- THE SECOND FORM. 'bulk': how many values and letters a reading holds, each counted each time it is reached (what is shared counts as often as it is met; a slice's spare places count too). A statement '..UptoSaid' is the law's where the arguments, and the package variables that the reading takes, are together of bulk at most 1048576: NARROWER than '..Said'. Prove '..Said' where nothing that the law and all that it calls make is longer than what came in: it says more and counts as full. Else prove '..UptoSaid'. A law counts once. -/
mutual
def uptoBulk {H : Type} : DataW H → Nat
  | .lit (.string bytes) => bytes.length + 1
  | .lit _ => 1
  | .nil => 1
  | .ptr d => uptoBulk d + 1
  | .slice elems spare => uptoBulkAll elems + uptoBulkAll spare + 1
  | .agg parts => uptoBulkAll parts + 1
  | .iface _ d => uptoBulk d + 1
  | .map entries => uptoBulkEntries entries + 1
  | .held _ => 1
def uptoBulkAll {H : Type} : List (DataW H) → Nat
  | [] => 0
  | d :: r => uptoBulk d + uptoBulkAll r
def uptoBulkEntries {H : Type} : List (Lit × DataW H) → Nat
  | [] => 0
  | x :: r => uptoBulkEntry x + uptoBulkEntries r
def uptoBulkEntry {H : Type} : Lit × DataW H → Nat
  | (.string bytes, d) => bytes.length + uptoBulk d + 1
  | (_, d) => uptoBulk d + 1
 end
def uptoSmall : (H : Type) → List (DataW H) → Bool := fun _ ds => decide (uptoBulkAll ds ≤ 1048576)
def OpenSpec.upto (s : _root_.Go.ChangeSpec) : _root_.Go.OpenSpec := { _root_.Go.OpenSpec.ofChange s with cond := some uptoSmall }

/-- 'laws.FnExactCyclesLeft', WHERE WHAT IT READS IS OF BULK AT MOST 1048576: true; the input reads as it did. -/
def fnExactCyclesLeftUptoRow : OpenClaim := { program := "ythncgpbgffbpgaa", sum := "fc15028bfa588cbb4cf20db6fef868bac7f433c2a7c1bea285571974263f9549", func := "loop.example/g01329/laws.FnExactCyclesLeft", spec := "fnExactCyclesLeft", unfollowed := true, recurses := true, apart := false, narrowed := true }
def FnExactCyclesLeftUptoSaid : Prop := fnExactCyclesLeftUptoRow.holds Try.pinned (OpenSpec.upto fnExactCyclesLeftSpec)

/-- 'laws.FnExactColouringOf', WHERE WHAT IT READS IS OF BULK AT MOST 1048576: true; the input reads as it did. -/
def fnExactColouringOfUptoRow : OpenClaim := { program := "ythncgpbgffbpgaa", sum := "fc15028bfa588cbb4cf20db6fef868bac7f433c2a7c1bea285571974263f9549", func := "loop.example/g01329/laws.FnExactColouringOf", spec := "fnExactColouringOf", unfollowed := true, recurses := true, apart := false, narrowed := true }
def FnExactColouringOfUptoSaid : Prop := fnExactColouringOfUptoRow.holds Try.pinned (OpenSpec.upto fnExactColouringOfSpec)

/-- 'laws.FnExactFlowDimension', WHERE WHAT IT READS IS OF BULK AT MOST 1048576: true; the input reads as it did. -/
def fnExactFlowDimensionUptoRow : OpenClaim := { program := "ythncgpbgffbpgaa", sum := "fc15028bfa588cbb4cf20db6fef868bac7f433c2a7c1bea285571974263f9549", func := "loop.example/g01329/laws.FnExactFlowDimension", spec := "fnExactFlowDimension", unfollowed := true, recurses := true, apart := false, narrowed := true }
def FnExactFlowDimensionUptoSaid : Prop := fnExactFlowDimensionUptoRow.holds Try.pinned (OpenSpec.upto fnExactFlowDimensionSpec)

end Rows
end Go.Proofs.Ythncgpbgffbpgaa
