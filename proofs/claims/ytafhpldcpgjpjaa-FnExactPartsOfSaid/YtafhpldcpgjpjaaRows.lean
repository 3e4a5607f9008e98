/-
  No cell of these rows narrows 'for every input' (looked for: loops, veiled, ifaces, maps, wideKeys, modest, calm, conditions, laid).
  DERIVED. THE GIVEN ROWS OF THIS SEAT. 12 by the template 'for every input the law returns true; each argument reads behind the call as it read before'; 0 by the template 'total and deterministic' (their statements: YtafhpldcpgjpjaaTotals.lean).
  GIVEN WITH THE SEED: the statements are not yours to turn. If you find one false, say at which input.
  Laid BY PROGRAM, IN A SANDBOX (cutbox-rows.mjs): the forced cells as the released guide's own fill.sh prints them over the translation 5dd8ed58e9a0f479… (all of the seat's roots in one cut). By AI agents, Wed Nov 11 2026. No macro, syntax, notation, axiom, sorry.
-/
import Derived.Test.YtafhpldcpgjpjaaChecked
import GoSem.Claim
import GoSem.ClaimJoined
import GoSem.ClaimMapViews
import Derived.JoinedTies
import Derived.KernelRfl
namespace Go.Proofs.Ytafhpldcpgjpjaa
/- THE CELL 'sum', in the pinned program and in every row, IS THE sha256 OF THE DUMP (.gsa) THAT YtafhpldcpgjpjaaProg.lean LOADS. Nothing in Lean hashes anything: it is a label: what it is worth is what the hold of that sum in a sandbox is worth. -/
noncomputable def Try.pinned : Pinned := { name := "ytafhpldcpgjpjaa", sum := "5dd8ed58e9a0f4792433d8c3706d56d083d695b42c72ed0e1986d54a638ead51", checked := Try.checked }
namespace Rows
def none {H : Type} : Left H := { results := [], args := [] }

/-- 'laws.FnExactPartsOf': WHATEVER THE INPUT: true; the input reads as it did. -/
def fnExactPartsOfSpec : ChangeSpec := { name := "fnExactPartsOf", fn := fun _ => fun
  | [d] => { results := [.lit (.bool true)], args := [d] }
  | _ => none }
def fnExactPartsOfRow : OpenClaim := { program := "ytafhpldcpgjpjaa", sum := "5dd8ed58e9a0f4792433d8c3706d56d083d695b42c72ed0e1986d54a638ead51", func := "loop.example/g01329/laws.FnExactPartsOf", spec := "fnExactPartsOf", unfollowed := true, recurses := true, plainKeys := false, apart := false }
def FnExactPartsOfSaid : Prop := fnExactPartsOfRow.holds Try.pinned (OpenSpec.ofChange fnExactPartsOfSpec)

/-- ITS FALSE NEIGHBOUR: 'it returns false'. Refute it at one input. -/
def fnExactPartsOfWrong : ChangeSpec := { name := "fnExactPartsOf", fn := fun _ => fun
  | [d] => { results := [.lit (.bool false)], args := [d] }
  | _ => none }
def FnExactPartsOfWrongFalsely : Prop := fnExactPartsOfRow.holds Try.pinned (OpenSpec.ofChange fnExactPartsOfWrong)

/-- 'laws.FnExactIsConnected': WHATEVER THE INPUT: true; the input reads as it did. -/
def fnExactIsConnectedSpec : ChangeSpec := { name := "fnExactIsConnected", fn := fun _ => fun
  | [d] => { results := [.lit (.bool true)], args := [d] }
  | _ => none }
def fnExactIsConnectedRow : OpenClaim := { program := "ytafhpldcpgjpjaa", sum := "5dd8ed58e9a0f4792433d8c3706d56d083d695b42c72ed0e1986d54a638ead51", func := "loop.example/g01329/laws.FnExactIsConnected", spec := "fnExactIsConnected", unfollowed := true, recurses := true, plainKeys := false, apart := false }
def FnExactIsConnectedSaid : Prop := fnExactIsConnectedRow.holds Try.pinned (OpenSpec.ofChange fnExactIsConnectedSpec)

/-- ITS FALSE NEIGHBOUR: 'it returns false'. Refute it at one input. -/
def fnExactIsConnectedWrong : ChangeSpec := { name := "fnExactIsConnected", fn := fun _ => fun
  | [d] => { results := [.lit (.bool false)], args := [d] }
  | _ => none }
def FnExactIsConnectedWrongFalsely : Prop := fnExactIsConnectedRow.holds Try.pinned (OpenSpec.ofChange fnExactIsConnectedWrong)

/-- 'laws.FnExactDistanceOf': WHATEVER THE INPUT: true; the input reads as it did. -/
def fnExactDistanceOfSpec : ChangeSpec := { name := "fnExactDistanceOf", fn := fun _ => fun
  | [d1, d2, d3] => { results := [.lit (.bool true)], args := [d1, d2, d3] }
  | _ => none }
def fnExactDistanceOfRow : OpenClaim := { program := "ytafhpldcpgjpjaa", sum := "5dd8ed58e9a0f4792433d8c3706d56d083d695b42c72ed0e1986d54a638ead51", func := "loop.example/g01329/laws.FnExactDistanceOf", spec := "fnExactDistanceOf", unfollowed := true, recurses := true, plainKeys := false, apart := false }
def FnExactDistanceOfSaid : Prop := fnExactDistanceOfRow.holds Try.pinned (OpenSpec.ofChange fnExactDistanceOfSpec)

/-- ITS FALSE NEIGHBOUR: 'it returns false'. Refute it at one input. -/
def fnExactDistanceOfWrong : ChangeSpec := { name := "fnExactDistanceOf", fn := fun _ => fun
  | [d1, d2, d3] => { results := [.lit (.bool false)], args := [d1, d2, d3] }
  | _ => none }
def FnExactDistanceOfWrongFalsely : Prop := fnExactDistanceOfRow.holds Try.pinned (OpenSpec.ofChange fnExactDistanceOfWrong)

/-- 'laws.FnExactDiameterOf': WHATEVER THE INPUT: true; the input reads as it did. -/
def fnExactDiameterOfSpec : ChangeSpec := { name := "fnExactDiameterOf", fn := fun _ => fun
  | [d] => { results := [.lit (.bool true)], args := [d] }
  | _ => none }
def fnExactDiameterOfRow : OpenClaim := { program := "ytafhpldcpgjpjaa", sum := "5dd8ed58e9a0f4792433d8c3706d56d083d695b42c72ed0e1986d54a638ead51", func := "loop.example/g01329/laws.FnExactDiameterOf", spec := "fnExactDiameterOf", unfollowed := true, recurses := true, plainKeys := false, apart := false }
def FnExactDiameterOfSaid : Prop := fnExactDiameterOfRow.holds Try.pinned (OpenSpec.ofChange fnExactDiameterOfSpec)

/-- ITS FALSE NEIGHBOUR: 'it returns false'. Refute it at one input. -/
def fnExactDiameterOfWrong : ChangeSpec := { name := "fnExactDiameterOf", fn := fun _ => fun
  | [d] => { results := [.lit (.bool false)], args := [d] }
  | _ => none }
def FnExactDiameterOfWrongFalsely : Prop := fnExactDiameterOfRow.holds Try.pinned (OpenSpec.ofChange fnExactDiameterOfWrong)

/-- 'laws.FnExactGirthOf': WHATEVER THE INPUT: true; the input reads as it did. -/
def fnExactGirthOfSpec : ChangeSpec := { name := "fnExactGirthOf", fn := fun _ => fun
  | [d] => { results := [.lit (.bool true)], args := [d] }
  | _ => none }
def fnExactGirthOfRow : OpenClaim := { program := "ytafhpldcpgjpjaa", sum := "5dd8ed58e9a0f4792433d8c3706d56d083d695b42c72ed0e1986d54a638ead51", func := "loop.example/g01329/laws.FnExactGirthOf", spec := "fnExactGirthOf", unfollowed := true, recurses := true, plainKeys := false, apart := false }
def FnExactGirthOfSaid : Prop := fnExactGirthOfRow.holds Try.pinned (OpenSpec.ofChange fnExactGirthOfSpec)

/-- ITS FALSE NEIGHBOUR: 'it returns false'. Refute it at one input. -/
def fnExactGirthOfWrong : ChangeSpec := { name := "fnExactGirthOf", fn := fun _ => fun
  | [d] => { results := [.lit (.bool false)], args := [d] }
  | _ => none }
def FnExactGirthOfWrongFalsely : Prop := fnExactGirthOfRow.holds Try.pinned (OpenSpec.ofChange fnExactGirthOfWrong)

/-- 'laws.FnExactIsBipartite': WHATEVER THE INPUT: true; the input reads as it did. -/
def fnExactIsBipartiteSpec : ChangeSpec := { name := "fnExactIsBipartite", fn := fun _ => fun
  | [d] => { results := [.lit (.bool true)], args := [d] }
  | _ => none }
def fnExactIsBipartiteRow : OpenClaim := { program := "ytafhpldcpgjpjaa", sum := "5dd8ed58e9a0f4792433d8c3706d56d083d695b42c72ed0e1986d54a638ead51", func := "loop.example/g01329/laws.FnExactIsBipartite", spec := "fnExactIsBipartite", unfollowed := true, recurses := true, plainKeys := false, apart := false }
def FnExactIsBipartiteSaid : Prop := fnExactIsBipartiteRow.holds Try.pinned (OpenSpec.ofChange fnExactIsBipartiteSpec)

/-- ITS FALSE NEIGHBOUR: 'it returns false'. Refute it at one input. -/
def fnExactIsBipartiteWrong : ChangeSpec := { name := "fnExactIsBipartite", fn := fun _ => fun
  | [d] => { results := [.lit (.bool false)], args := [d] }
  | _ => none }
def FnExactIsBipartiteWrongFalsely : Prop := fnExactIsBipartiteRow.holds Try.pinned (OpenSpec.ofChange fnExactIsBipartiteWrong)

/-- 'laws.FnExactBridgesOf': WHATEVER THE INPUT: true; the input reads as it did. -/
def fnExactBridgesOfSpec : ChangeSpec := { name := "fnExactBridgesOf", fn := fun _ => fun
  | [d] => { results := [.lit (.bool true)], args := [d] }
  | _ => none }
def fnExactBridgesOfRow : OpenClaim := { program := "ytafhpldcpgjpjaa", sum := "5dd8ed58e9a0f4792433d8c3706d56d083d695b42c72ed0e1986d54a638ead51", func := "loop.example/g01329/laws.FnExactBridgesOf", spec := "fnExactBridgesOf", unfollowed := true, recurses := true, plainKeys := false, apart := false }
def FnExactBridgesOfSaid : Prop := fnExactBridgesOfRow.holds Try.pinned (OpenSpec.ofChange fnExactBridgesOfSpec)

/-- ITS FALSE NEIGHBOUR: 'it returns false'. Refute it at one input. -/
def fnExactBridgesOfWrong : ChangeSpec := { name := "fnExactBridgesOf", fn := fun _ => fun
  | [d] => { results := [.lit (.bool false)], args := [d] }
  | _ => none }
def FnExactBridgesOfWrongFalsely : Prop := fnExactBridgesOfRow.holds Try.pinned (OpenSpec.ofChange fnExactBridgesOfWrong)

/-- 'laws.FnExactEdgesLeaving': WHATEVER THE INPUT: true; the input reads as it did. -/
def fnExactEdgesLeavingSpec : ChangeSpec := { name := "fnExactEdgesLeaving", fn := fun _ => fun
  | [d1, d2] => { results := [.lit (.bool true)], args := [d1, d2] }
  | _ => none }
def fnExactEdgesLeavingRow : OpenClaim := { program := "ytafhpldcpgjpjaa", sum := "5dd8ed58e9a0f4792433d8c3706d56d083d695b42c72ed0e1986d54a638ead51", func := "loop.example/g01329/laws.FnExactEdgesLeaving", spec := "fnExactEdgesLeaving", unfollowed := true, recurses := true, plainKeys := false, apart := false }
def FnExactEdgesLeavingSaid : Prop := fnExactEdgesLeavingRow.holds Try.pinned (OpenSpec.ofChange fnExactEdgesLeavingSpec)

/-- ITS FALSE NEIGHBOUR: 'it returns false'. Refute it at one input. -/
def fnExactEdgesLeavingWrong : ChangeSpec := { name := "fnExactEdgesLeaving", fn := fun _ => fun
  | [d1, d2] => { results := [.lit (.bool false)], args := [d1, d2] }
  | _ => none }
def FnExactEdgesLeavingWrongFalsely : Prop := fnExactEdgesLeavingRow.holds Try.pinned (OpenSpec.ofChange fnExactEdgesLeavingWrong)

/-- 'laws.FnExactSidesOf': WHATEVER THE INPUT: true; the input reads as it did. -/
def fnExactSidesOfSpec : ChangeSpec := { name := "fnExactSidesOf", fn := fun _ => fun
  | [d1, d2] => { results := [.lit (.bool true)], args := [d1, d2] }
  | _ => none }
def fnExactSidesOfRow : OpenClaim := { program := "ytafhpldcpgjpjaa", sum := "5dd8ed58e9a0f4792433d8c3706d56d083d695b42c72ed0e1986d54a638ead51", func := "loop.example/g01329/laws.FnExactSidesOf", spec := "fnExactSidesOf", unfollowed := true, recurses := true, plainKeys := false, apart := false }
def FnExactSidesOfSaid : Prop := fnExactSidesOfRow.holds Try.pinned (OpenSpec.ofChange fnExactSidesOfSpec)

/-- ITS FALSE NEIGHBOUR: 'it returns false'. Refute it at one input. -/
def fnExactSidesOfWrong : ChangeSpec := { name := "fnExactSidesOf", fn := fun _ => fun
  | [d1, d2] => { results := [.lit (.bool false)], args := [d1, d2] }
  | _ => none }
def FnExactSidesOfWrongFalsely : Prop := fnExactSidesOfRow.holds Try.pinned (OpenSpec.ofChange fnExactSidesOfWrong)

/-- 'laws.FnExactIsEdgeCut': WHATEVER THE INPUT: true; the input reads as it did. -/
def fnExactIsEdgeCutSpec : ChangeSpec := { name := "fnExactIsEdgeCut", fn := fun _ => fun
  | [d1, d2] => { results := [.lit (.bool true)], args := [d1, d2] }
  | _ => none }
def fnExactIsEdgeCutRow : OpenClaim := { program := "ytafhpldcpgjpjaa", sum := "5dd8ed58e9a0f4792433d8c3706d56d083d695b42c72ed0e1986d54a638ead51", func := "loop.example/g01329/laws.FnExactIsEdgeCut", spec := "fnExactIsEdgeCut", unfollowed := true, recurses := true, plainKeys := false, apart := false }
def FnExactIsEdgeCutSaid : Prop := fnExactIsEdgeCutRow.holds Try.pinned (OpenSpec.ofChange fnExactIsEdgeCutSpec)

/-- ITS FALSE NEIGHBOUR: 'it returns false'. Refute it at one input. -/
def fnExactIsEdgeCutWrong : ChangeSpec := { name := "fnExactIsEdgeCut", fn := fun _ => fun
  | [d1, d2] => { results := [.lit (.bool false)], args := [d1, d2] }
  | _ => none }
def FnExactIsEdgeCutWrongFalsely : Prop := fnExactIsEdgeCutRow.holds Try.pinned (OpenSpec.ofChange fnExactIsEdgeCutWrong)

/-- 'laws.FnExactIsCyclicCut': WHATEVER THE INPUT: true; the input reads as it did. -/
def fnExactIsCyclicCutSpec : ChangeSpec := { name := "fnExactIsCyclicCut", fn := fun _ => fun
  | [d1, d2] => { results := [.lit (.bool true)], args := [d1, d2] }
  | _ => none }
def fnExactIsCyclicCutRow : OpenClaim := { program := "ytafhpldcpgjpjaa", sum := "5dd8ed58e9a0f4792433d8c3706d56d083d695b42c72ed0e1986d54a638ead51", func := "loop.example/g01329/laws.FnExactIsCyclicCut", spec := "fnExactIsCyclicCut", unfollowed := true, recurses := true, plainKeys := false, apart := false }
def FnExactIsCyclicCutSaid : Prop := fnExactIsCyclicCutRow.holds Try.pinned (OpenSpec.ofChange fnExactIsCyclicCutSpec)

/-- ITS FALSE NEIGHBOUR: 'it returns false'. Refute it at one input. -/
def fnExactIsCyclicCutWrong : ChangeSpec := { name := "fnExactIsCyclicCut", fn := fun _ => fun
  | [d1, d2] => { results := [.lit (.bool false)], args := [d1, d2] }
  | _ => none }
def FnExactIsCyclicCutWrongFalsely : Prop := fnExactIsCyclicCutRow.holds Try.pinned (OpenSpec.ofChange fnExactIsCyclicCutWrong)

/-- 'laws.FnExactCountSides': WHATEVER THE INPUT: true; the input reads as it did. -/
def fnExactCountSidesSpec : ChangeSpec := { name := "fnExactCountSides", fn := fun _ => fun
  | [d1, d2] => { results := [.lit (.bool true)], args := [d1, d2] }
  | _ => none }
def fnExactCountSidesRow : OpenClaim := { program := "ytafhpldcpgjpjaa", sum := "5dd8ed58e9a0f4792433d8c3706d56d083d695b42c72ed0e1986d54a638ead51", func := "loop.example/g01329/laws.FnExactCountSides", spec := "fnExactCountSides", unfollowed := true, recurses := true, plainKeys := false, apart := false }
def FnExactCountSidesSaid : Prop := fnExactCountSidesRow.holds Try.pinned (OpenSpec.ofChange fnExactCountSidesSpec)

/-- ITS FALSE NEIGHBOUR: 'it returns false'. Refute it at one input. -/
def fnExactCountSidesWrong : ChangeSpec := { name := "fnExactCountSides", fn := fun _ => fun
  | [d1, d2] => { results := [.lit (.bool false)], args := [d1, d2] }
  | _ => none }
def FnExactCountSidesWrongFalsely : Prop := fnExactCountSidesRow.holds Try.pinned (OpenSpec.ofChange fnExactCountSidesWrong)

/- THE SECOND FORM. 'bulk': how many values and letters a reading holds, each counted each time it is reached (what is shared counts as often as it is met; a slice's spare places count too). A statement '..UptoSaid' is the law's where the arguments, and the package variables that the reading takes, are together of bulk at most 1048576: NARROWER than '..Said'. Prove '..Said' where nothing that the law and all that it calls make is longer than what came in: it says more and counts as full. Else prove '..UptoSaid'. A law counts once. -/
mutual
def uptoBulk {H : Type} : DataW H → Nat
  | .lit (.string bytes) => bytes.length + 1
  | .lit _ => 1
  | .nil => 1
  | .ptr d => uptoBulk d + 1
  | .slice elems spare => uptoBulkAll elems + uptoBulkAll spare + 1
  | .agg parts => uptoBulkAll parts + 1
  | .iface _ d => uptoBulk d + 1
  | .map entries => uptoBulkEntries entries + 1
  | .held _ => 1
def uptoBulkAll {H : Type} : List (DataW H) → Nat
  | [] => 0
  | d :: r => uptoBulk d + uptoBulkAll r
def uptoBulkEntries {H : Type} : List (Lit × DataW H) → Nat
  | [] => 0
  | x :: r => uptoBulkEntry x + uptoBulkEntries r
def uptoBulkEntry {H : Type} : Lit × DataW H → Nat
  | (.string bytes, d) => bytes.length + uptoBulk d + 1
  | (_, d) => uptoBulk d + 1
 end
def uptoSmall : (H : Type) → List (DataW H) → Bool := fun _ ds => decide (uptoBulkAll ds ≤ 1048576)
def OpenSpec.upto (s : _root_.Go.ChangeSpec) : _root_.Go.OpenSpec := { _root_.Go.OpenSpec.ofChange s with cond := some uptoSmall }

/-- 'laws.FnExactPartsOf', WHERE WHAT IT READS IS OF BULK AT MOST 1048576: true; the input reads as it did. -/
def fnExactPartsOfUptoRow : OpenClaim := { program := "ytafhpldcpgjpjaa", sum := "5dd8ed58e9a0f4792433d8c3706d56d083d695b42c72ed0e1986d54a638ead51", func := "loop.example/g01329/laws.FnExactPartsOf", spec := "fnExactPartsOf", unfollowed := true, recurses := true, plainKeys := false, apart := false, narrowed := true }
def FnExactPartsOfUptoSaid : Prop := fnExactPartsOfUptoRow.holds Try.pinned (OpenSpec.upto fnExactPartsOfSpec)

/-- 'laws.FnExactIsConnected', WHERE WHAT IT READS IS OF BULK AT MOST 1048576: true; the input reads as it did. -/
def fnExactIsConnectedUptoRow : OpenClaim := { program := "ytafhpldcpgjpjaa", sum := "5dd8ed58e9a0f4792433d8c3706d56d083d695b42c72ed0e1986d54a638ead51", func := "loop.example/g01329/laws.FnExactIsConnected", spec := "fnExactIsConnected", unfollowed := true, recurses := true, plainKeys := false, apart := false, narrowed := true }
def FnExactIsConnectedUptoSaid : Prop := fnExactIsConnectedUptoRow.holds Try.pinned (OpenSpec.upto fnExactIsConnectedSpec)

/-- 'laws.FnExactDistanceOf', WHERE WHAT IT READS IS OF BULK AT MOST 1048576: true; the input reads as it did. -/
def fnExactDistanceOfUptoRow : OpenClaim := { program := "ytafhpldcpgjpjaa", sum := "5dd8ed58e9a0f4792433d8c3706d56d083d695b42c72ed0e1986d54a638ead51", func := "loop.example/g01329/laws.FnExactDistanceOf", spec := "fnExactDistanceOf", unfollowed := true, recurses := true, plainKeys := false, apart := false, narrowed := true }
def FnExactDistanceOfUptoSaid : Prop := fnExactDistanceOfUptoRow.holds Try.pinned (OpenSpec.upto fnExactDistanceOfSpec)

/-- 'laws.FnExactDiameterOf', WHERE WHAT IT READS IS OF BULK AT MOST 1048576: true; the input reads as it did. -/
def fnExactDiameterOfUptoRow : OpenClaim := { program := "ytafhpldcpgjpjaa", sum := "5dd8ed58e9a0f4792433d8c3706d56d083d695b42c72ed0e1986d54a638ead51", func := "loop.example/g01329/laws.FnExactDiameterOf", spec := "fnExactDiameterOf", unfollowed := true, recurses := true, plainKeys := false, apart := false, narrowed := true }
def FnExactDiameterOfUptoSaid : Prop := fnExactDiameterOfUptoRow.holds Try.pinned (OpenSpec.upto fnExactDiameterOfSpec)

/-- 'laws.FnExactGirthOf', WHERE WHAT IT READS IS OF BULK AT MOST 1048576: true; the input reads as it did. -/
def fnExactGirthOfUptoRow : OpenClaim := { program := "ytafhpldcpgjpjaa", sum := "5dd8ed58e9a0f4792433d8c3706d56d083d695b42c72ed0e1986d54a638ead51", func := "loop.example/g01329/laws.FnExactGirthOf", spec := "fnExactGirthOf", unfollowed := true, recurses := true, plainKeys := false, apart := false, narrowed := true }
def FnExactGirthOfUptoSaid : Prop := fnExactGirthOfUptoRow.holds Try.pinned (OpenSpec.upto fnExactGirthOfSpec)

/-- 'laws.FnExactIsBipartite', WHERE WHAT IT READS IS OF BULK AT MOST 1048576: true; the input reads as it did. -/
def fnExactIsBipartiteUptoRow : OpenClaim := { program := "ytafhpldcpgjpjaa", sum := "5dd8ed58e9a0f4792433d8c3706d56d083d695b42c72ed0e1986d54a638ead51", func := "loop.example/g01329/laws.FnExactIsBipartite", spec := "fnExactIsBipartite", unfollowed := true, recurses := true, plainKeys := false, apart := false, narrowed := true }
def FnExactIsBipartiteUptoSaid : Prop := fnExactIsBipartiteUptoRow.holds Try.pinned (OpenSpec.upto fnExactIsBipartiteSpec)

/-- 'laws.FnExactBridgesOf', WHERE WHAT IT READS IS OF BULK AT MOST 1048576: true; the input reads as it did. -/
def fnExactBridgesOfUptoRow : OpenClaim := { program := "ytafhpldcpgjpjaa", sum := "5dd8ed58e9a0f4792433d8c3706d56d083d695b42c72ed0e1986d54a638ead51", func := "loop.example/g01329/laws.FnExactBridgesOf", spec := "fnExactBridgesOf", unfollowed := true, recurses := true, plainKeys := false, apart := false, narrowed := true }
def FnExactBridgesOfUptoSaid : Prop := fnExactBridgesOfUptoRow.holds Try.pinned (OpenSpec.upto fnExactBridgesOfSpec)

/-- 'laws.FnExactEdgesLeaving', WHERE WHAT IT READS IS OF BULK AT MOST 1048576: true; the input reads as it did. -/
def fnExactEdgesLeavingUptoRow : OpenClaim := { program := "ytafhpldcpgjpjaa", sum := "5dd8ed58e9a0f4792433d8c3706d56d083d695b42c72ed0e1986d54a638ead51", func := "loop.example/g01329/laws.FnExactEdgesLeaving", spec := "fnExactEdgesLeaving", unfollowed := true, recurses := true, plainKeys := false, apart := false, narrowed := true }
def FnExactEdgesLeavingUptoSaid : Prop := fnExactEdgesLeavingUptoRow.holds Try.pinned (OpenSpec.upto fnExactEdgesLeavingSpec)

/-- 'laws.FnExactSidesOf', WHERE WHAT IT READS IS OF BULK AT MOST 1048576: true; the input reads as it did. -/
def fnExactSidesOfUptoRow : OpenClaim := { program := "ytafhpldcpgjpjaa", sum := "5dd8ed58e9a0f4792433d8c3706d56d083d695b42c72ed0e1986d54a638ead51", func := "loop.example/g01329/laws.FnExactSidesOf", spec := "fnExactSidesOf", unfollowed := true, recurses := true, plainKeys := false, apart := false, narrowed := true }
def FnExactSidesOfUptoSaid : Prop := fnExactSidesOfUptoRow.holds Try.pinned (OpenSpec.upto fnExactSidesOfSpec)

/-- 'laws.FnExactIsEdgeCut', WHERE WHAT IT READS IS OF BULK AT MOST 1048576: true; the input reads as it did. -/
def fnExactIsEdgeCutUptoRow : OpenClaim := { program := "ytafhpldcpgjpjaa", sum := "5dd8ed58e9a0f4792433d8c3706d56d083d695b42c72ed0e1986d54a638ead51", func := "loop.example/g01329/laws.FnExactIsEdgeCut", spec := "fnExactIsEdgeCut", unfollowed := true, recurses := true, plainKeys := false, apart := false, narrowed := true }
def FnExactIsEdgeCutUptoSaid : Prop := fnExactIsEdgeCutUptoRow.holds Try.pinned (OpenSpec.upto fnExactIsEdgeCutSpec)

/-- 'laws.FnExactIsCyclicCut', WHERE WHAT IT READS IS OF BULK AT MOST 1048576: true; the input reads as it did. -/
def fnExactIsCyclicCutUptoRow : OpenClaim := { program := "ytafhpldcpgjpjaa", sum := "5dd8ed58e9a0f4792433d8c3706d56d083d695b42c72ed0e1986d54a638ead51", func := "loop.example/g01329/laws.FnExactIsCyclicCut", spec := "fnExactIsCyclicCut", unfollowed := true, recurses := true, plainKeys := false, apart := false, narrowed := true }
def FnExactIsCyclicCutUptoSaid : Prop := fnExactIsCyclicCutUptoRow.holds Try.pinned (OpenSpec.upto fnExactIsCyclicCutSpec)

/-- 'laws.FnExactCountSides', WHERE WHAT IT READS IS OF BULK AT MOST 1048576: true; the input reads as it did. -/
def fnExactCountSidesUptoRow : OpenClaim := { program := "ytafhpldcpgjpjaa", sum := "5dd8ed58e9a0f4792433d8c3706d56d083d695b42c72ed0e1986d54a638ead51", func := "loop.example/g01329/laws.FnExactCountSides", spec := "fnExactCountSides", unfollowed := true, recurses := true, plainKeys := false, apart := false, narrowed := true }
def FnExactCountSidesUptoSaid : Prop := fnExactCountSidesUptoRow.holds Try.pinned (OpenSpec.upto fnExactCountSidesSpec)

end Rows
end Go.Proofs.Ytafhpldcpgjpjaa
