/-
  No cell of these rows narrows 'for every input' (looked for: loops, veiled, ifaces, maps, wideKeys, modest, calm, conditions, laid).
  DERIVED. THE GIVEN ROWS OF THIS SEAT. 9 by the template 'for every input the law returns true; each argument reads behind the call as it read before'; 0 by the template 'total and deterministic' (their statements: YtppkcpekknhbmaaTotals.lean).
  GIVEN WITH THE SEED: the statements are not yours to turn. If you find one false, say at which input.
  Laid BY PROGRAM, IN A SANDBOX (cutbox-rows.mjs): the forced cells as the released guide's own fill.sh prints them over the translation 67152b71066ed5c1… (all of the seat's roots in one cut). By AI agents, Wed Nov 11 2026. No macro, syntax, notation, axiom, sorry.
-/
import Derived.Test.YtppkcpekknhbmaaChecked
import GoSem.Claim
import GoSem.ClaimJoined
import GoSem.ClaimMapViews
import Derived.JoinedTies
import Derived.KernelRfl
namespace Go.Proofs.Ytppkcpekknhbmaa
/- THE CELL 'sum', in the pinned program and in every row, IS THE sha256 OF THE DUMP (.gsa) THAT YtppkcpekknhbmaaProg.lean LOADS. Nothing in Lean hashes anything: it is a label: what it is worth is what the hold of that sum in a sandbox is worth. -/
noncomputable def Try.pinned : Pinned := { name := "ytppkcpekknhbmaa", sum := "67152b71066ed5c1de9d3ebf5537b8b2bd2ffc50921b66d6c95bd527f72e5265", checked := Try.checked }
namespace Rows
def none {H : Type} : Left H := { results := [], args := [] }

/-- 'laws.FnExactHasColouring': WHATEVER THE INPUT: true; the input reads as it did. -/
def fnExactHasColouringSpec : ChangeSpec := { name := "fnExactHasColouring", fn := fun _ => fun
  | [d] => { results := [.lit (.bool true)], args := [d] }
  | _ => none }
def fnExactHasColouringRow : OpenClaim := { program := "ytppkcpekknhbmaa", sum := "67152b71066ed5c1de9d3ebf5537b8b2bd2ffc50921b66d6c95bd527f72e5265", func := "loop.example/g01329/laws.FnExactHasColouring", spec := "fnExactHasColouring", unfollowed := true, recurses := true, plainKeys := false, apart := false }
def FnExactHasColouringSaid : Prop := fnExactHasColouringRow.holds Try.pinned (OpenSpec.ofChange fnExactHasColouringSpec)

/-- ITS FALSE NEIGHBOUR: 'it returns false'. Refute it at one input. -/
def fnExactHasColouringWrong : ChangeSpec := { name := "fnExactHasColouring", fn := fun _ => fun
  | [d] => { results := [.lit (.bool false)], args := [d] }
  | _ => none }
def FnExactHasColouringWrongFalsely : Prop := fnExactHasColouringRow.holds Try.pinned (OpenSpec.ofChange fnExactHasColouringWrong)

/-- 'laws.FnExactFirstColouring': WHATEVER THE INPUT: true; the input reads as it did. -/
def fnExactFirstColouringSpec : ChangeSpec := { name := "fnExactFirstColouring", fn := fun _ => fun
  | [d] => { results := [.lit (.bool true)], args := [d] }
  | _ => none }
def fnExactFirstColouringRow : OpenClaim := { program := "ytppkcpekknhbmaa", sum := "67152b71066ed5c1de9d3ebf5537b8b2bd2ffc50921b66d6c95bd527f72e5265", func := "loop.example/g01329/laws.FnExactFirstColouring", spec := "fnExactFirstColouring", unfollowed := true, recurses := true, plainKeys := false, apart := false }
def FnExactFirstColouringSaid : Prop := fnExactFirstColouringRow.holds Try.pinned (OpenSpec.ofChange fnExactFirstColouringSpec)

/-- ITS FALSE NEIGHBOUR: 'it returns false'. Refute it at one input. -/
def fnExactFirstColouringWrong : ChangeSpec := { name := "fnExactFirstColouring", fn := fun _ => fun
  | [d] => { results := [.lit (.bool false)], args := [d] }
  | _ => none }
def FnExactFirstColouringWrongFalsely : Prop := fnExactFirstColouringRow.holds Try.pinned (OpenSpec.ofChange fnExactFirstColouringWrong)

/-- 'laws.FnExactNormalColourings': WHATEVER THE INPUT: true; the input reads as it did. -/
def fnExactNormalColouringsSpec : ChangeSpec := { name := "fnExactNormalColourings", fn := fun _ => fun
  | [d] => { results := [.lit (.bool true)], args := [d] }
  | _ => none }
def fnExactNormalColouringsRow : OpenClaim := { program := "ytppkcpekknhbmaa", sum := "67152b71066ed5c1de9d3ebf5537b8b2bd2ffc50921b66d6c95bd527f72e5265", func := "loop.example/g01329/laws.FnExactNormalColourings", spec := "fnExactNormalColourings", unfollowed := true, recurses := true, plainKeys := false, apart := false }
def FnExactNormalColouringsSaid : Prop := fnExactNormalColouringsRow.holds Try.pinned (OpenSpec.ofChange fnExactNormalColouringsSpec)

/-- ITS FALSE NEIGHBOUR: 'it returns false'. Refute it at one input. -/
def fnExactNormalColouringsWrong : ChangeSpec := { name := "fnExactNormalColourings", fn := fun _ => fun
  | [d] => { results := [.lit (.bool false)], args := [d] }
  | _ => none }
def FnExactNormalColouringsWrongFalsely : Prop := fnExactNormalColouringsRow.holds Try.pinned (OpenSpec.ofChange fnExactNormalColouringsWrong)

/-- 'laws.FnExactDotProduct': WHATEVER THE INPUT: true; the input reads as it did. -/
def fnExactDotProductSpec : ChangeSpec := { name := "fnExactDotProduct", fn := fun _ => fun
  | [d1, d2, d3, d4, d5, d6] => { results := [.lit (.bool true)], args := [d1, d2, d3, d4, d5, d6] }
  | _ => none }
def fnExactDotProductRow : OpenClaim := { program := "ytppkcpekknhbmaa", sum := "67152b71066ed5c1de9d3ebf5537b8b2bd2ffc50921b66d6c95bd527f72e5265", func := "loop.example/g01329/laws.FnExactDotProduct", spec := "fnExactDotProduct", unfollowed := true, recurses := true, plainKeys := false, apart := false }
def FnExactDotProductSaid : Prop := fnExactDotProductRow.holds Try.pinned (OpenSpec.ofChange fnExactDotProductSpec)

/-- ITS FALSE NEIGHBOUR: 'it returns false'. Refute it at one input. -/
def fnExactDotProductWrong : ChangeSpec := { name := "fnExactDotProduct", fn := fun _ => fun
  | [d1, d2, d3, d4, d5, d6] => { results := [.lit (.bool false)], args := [d1, d2, d3, d4, d5, d6] }
  | _ => none }
def FnExactDotProductWrongFalsely : Prop := fnExactDotProductRow.holds Try.pinned (OpenSpec.ofChange fnExactDotProductWrong)

/-- 'laws.FnExactStarProduct': WHATEVER THE INPUT: true; the input reads as it did. -/
def fnExactStarProductSpec : ChangeSpec := { name := "fnExactStarProduct", fn := fun _ => fun
  | [d1, d2, d3, d4] => { results := [.lit (.bool true)], args := [d1, d2, d3, d4] }
  | _ => none }
def fnExactStarProductRow : OpenClaim := { program := "ytppkcpekknhbmaa", sum := "67152b71066ed5c1de9d3ebf5537b8b2bd2ffc50921b66d6c95bd527f72e5265", func := "loop.example/g01329/laws.FnExactStarProduct", spec := "fnExactStarProduct", unfollowed := true, recurses := true, plainKeys := false, apart := false }
def FnExactStarProductSaid : Prop := fnExactStarProductRow.holds Try.pinned (OpenSpec.ofChange fnExactStarProductSpec)

/-- ITS FALSE NEIGHBOUR: 'it returns false'. Refute it at one input. -/
def fnExactStarProductWrong : ChangeSpec := { name := "fnExactStarProduct", fn := fun _ => fun
  | [d1, d2, d3, d4] => { results := [.lit (.bool false)], args := [d1, d2, d3, d4] }
  | _ => none }
def FnExactStarProductWrongFalsely : Prop := fnExactStarProductRow.holds Try.pinned (OpenSpec.ofChange fnExactStarProductWrong)

/-- 'laws.FnExactOpenVertex': WHATEVER THE INPUT: true; the input reads as it did. -/
def fnExactOpenVertexSpec : ChangeSpec := { name := "fnExactOpenVertex", fn := fun _ => fun
  | [d1, d2] => { results := [.lit (.bool true)], args := [d1, d2] }
  | _ => none }
def fnExactOpenVertexRow : OpenClaim := { program := "ytppkcpekknhbmaa", sum := "67152b71066ed5c1de9d3ebf5537b8b2bd2ffc50921b66d6c95bd527f72e5265", func := "loop.example/g01329/laws.FnExactOpenVertex", spec := "fnExactOpenVertex", unfollowed := true, recurses := true, plainKeys := false, apart := false }
def FnExactOpenVertexSaid : Prop := fnExactOpenVertexRow.holds Try.pinned (OpenSpec.ofChange fnExactOpenVertexSpec)

/-- ITS FALSE NEIGHBOUR: 'it returns false'. Refute it at one input. -/
def fnExactOpenVertexWrong : ChangeSpec := { name := "fnExactOpenVertex", fn := fun _ => fun
  | [d1, d2] => { results := [.lit (.bool false)], args := [d1, d2] }
  | _ => none }
def FnExactOpenVertexWrongFalsely : Prop := fnExactOpenVertexRow.holds Try.pinned (OpenSpec.ofChange fnExactOpenVertexWrong)

/-- 'laws.FnExactBridgeEdges': WHATEVER THE INPUT: true; the input reads as it did. -/
def fnExactBridgeEdgesSpec : ChangeSpec := { name := "fnExactBridgeEdges", fn := fun _ => fun
  | [d1, d2, d3] => { results := [.lit (.bool true)], args := [d1, d2, d3] }
  | _ => none }
def fnExactBridgeEdgesRow : OpenClaim := { program := "ytppkcpekknhbmaa", sum := "67152b71066ed5c1de9d3ebf5537b8b2bd2ffc50921b66d6c95bd527f72e5265", func := "loop.example/g01329/laws.FnExactBridgeEdges", spec := "fnExactBridgeEdges", unfollowed := true, recurses := true, plainKeys := false, apart := false }
def FnExactBridgeEdgesSaid : Prop := fnExactBridgeEdgesRow.holds Try.pinned (OpenSpec.ofChange fnExactBridgeEdgesSpec)

/-- ITS FALSE NEIGHBOUR: 'it returns false'. Refute it at one input. -/
def fnExactBridgeEdgesWrong : ChangeSpec := { name := "fnExactBridgeEdges", fn := fun _ => fun
  | [d1, d2, d3] => { results := [.lit (.bool false)], args := [d1, d2, d3] }
  | _ => none }
def FnExactBridgeEdgesWrongFalsely : Prop := fnExactBridgeEdgesRow.holds Try.pinned (OpenSpec.ofChange fnExactBridgeEdgesWrong)

/-- 'laws.FnExactCutEdge': WHATEVER THE INPUT: true; the input reads as it did. -/
def fnExactCutEdgeSpec : ChangeSpec := { name := "fnExactCutEdge", fn := fun _ => fun
  | [d1, d2] => { results := [.lit (.bool true)], args := [d1, d2] }
  | _ => none }
def fnExactCutEdgeRow : OpenClaim := { program := "ytppkcpekknhbmaa", sum := "67152b71066ed5c1de9d3ebf5537b8b2bd2ffc50921b66d6c95bd527f72e5265", func := "loop.example/g01329/laws.FnExactCutEdge", spec := "fnExactCutEdge", unfollowed := true, recurses := true, plainKeys := false, apart := false }
def FnExactCutEdgeSaid : Prop := fnExactCutEdgeRow.holds Try.pinned (OpenSpec.ofChange fnExactCutEdgeSpec)

/-- ITS FALSE NEIGHBOUR: 'it returns false'. Refute it at one input. -/
def fnExactCutEdgeWrong : ChangeSpec := { name := "fnExactCutEdge", fn := fun _ => fun
  | [d1, d2] => { results := [.lit (.bool false)], args := [d1, d2] }
  | _ => none }
def FnExactCutEdgeWrongFalsely : Prop := fnExactCutEdgeRow.holds Try.pinned (OpenSpec.ofChange fnExactCutEdgeWrong)

/-- 'laws.FnExactFlowerGraph': WHATEVER THE INPUT: true; the input reads as it did. -/
def fnExactFlowerGraphSpec : ChangeSpec := { name := "fnExactFlowerGraph", fn := fun _ => fun
  | [d] => { results := [.lit (.bool true)], args := [d] }
  | _ => none }
def fnExactFlowerGraphRow : OpenClaim := { program := "ytppkcpekknhbmaa", sum := "67152b71066ed5c1de9d3ebf5537b8b2bd2ffc50921b66d6c95bd527f72e5265", func := "loop.example/g01329/laws.FnExactFlowerGraph", spec := "fnExactFlowerGraph", unfollowed := true, recurses := true, plainKeys := false, apart := false }
def FnExactFlowerGraphSaid : Prop := fnExactFlowerGraphRow.holds Try.pinned (OpenSpec.ofChange fnExactFlowerGraphSpec)

/-- ITS FALSE NEIGHBOUR: 'it returns false'. Refute it at one input. -/
def fnExactFlowerGraphWrong : ChangeSpec := { name := "fnExactFlowerGraph", fn := fun _ => fun
  | [d] => { results := [.lit (.bool false)], args := [d] }
  | _ => none }
def FnExactFlowerGraphWrongFalsely : Prop := fnExactFlowerGraphRow.holds Try.pinned (OpenSpec.ofChange fnExactFlowerGraphWrong)

/- THE SECOND FORM. 'bulk': how many values and letters a reading holds, each counted each time it is reached (what is shared counts as often as it is met; a slice's spare places count too). A statement '..UptoSaid' is the law's where the arguments, and the package variables that the reading takes, are together of bulk at most 1048576: NARROWER than '..Said'. Prove '..Said' where nothing that the law and all that it calls make is longer than what came in: it says more and counts as full. Else prove '..UptoSaid'. A law counts once. -/
mutual
def uptoBulk {H : Type} : DataW H → Nat
  | .lit (.string bytes) => bytes.length + 1
  | .lit _ => 1
  | .nil => 1
  | .ptr d => uptoBulk d + 1
  | .slice elems spare => uptoBulkAll elems + uptoBulkAll spare + 1
  | .agg parts => uptoBulkAll parts + 1
  | .iface _ d => uptoBulk d + 1
  | .map entries => uptoBulkEntries entries + 1
  | .held _ => 1
def uptoBulkAll {H : Type} : List (DataW H) → Nat
  | [] => 0
  | d :: r => uptoBulk d + uptoBulkAll r
def uptoBulkEntries {H : Type} : List (Lit × DataW H) → Nat
  | [] => 0
  | x :: r => uptoBulkEntry x + uptoBulkEntries r
def uptoBulkEntry {H : Type} : Lit × DataW H → Nat
  | (.string bytes, d) => bytes.length + uptoBulk d + 1
  | (_, d) => uptoBulk d + 1
 end
def uptoSmall : (H : Type) → List (DataW H) → Bool := fun _ ds => decide (uptoBulkAll ds ≤ 1048576)
def OpenSpec.upto (s : _root_.Go.ChangeSpec) : _root_.Go.OpenSpec := { _root_.Go.OpenSpec.ofChange s with cond := some uptoSmall }

/-- 'laws.FnExactHasColouring', WHERE WHAT IT READS IS OF BULK AT MOST 1048576: true; the input reads as it did. -/
def fnExactHasColouringUptoRow : OpenClaim := { program := "ytppkcpekknhbmaa", sum := "67152b71066ed5c1de9d3ebf5537b8b2bd2ffc50921b66d6c95bd527f72e5265", func := "loop.example/g01329/laws.FnExactHasColouring", spec := "fnExactHasColouring", unfollowed := true, recurses := true, plainKeys := false, apart := false, narrowed := true }
def FnExactHasColouringUptoSaid : Prop := fnExactHasColouringUptoRow.holds Try.pinned (OpenSpec.upto fnExactHasColouringSpec)

/-- 'laws.FnExactFirstColouring', WHERE WHAT IT READS IS OF BULK AT MOST 1048576: true; the input reads as it did. -/
def fnExactFirstColouringUptoRow : OpenClaim := { program := "ytppkcpekknhbmaa", sum := "67152b71066ed5c1de9d3ebf5537b8b2bd2ffc50921b66d6c95bd527f72e5265", func := "loop.example/g01329/laws.FnExactFirstColouring", spec := "fnExactFirstColouring", unfollowed := true, recurses := true, plainKeys := false, apart := false, narrowed := true }
def FnExactFirstColouringUptoSaid : Prop := fnExactFirstColouringUptoRow.holds Try.pinned (OpenSpec.upto fnExactFirstColouringSpec)

/-- 'laws.FnExactNormalColourings', WHERE WHAT IT READS IS OF BULK AT MOST 1048576: true; the input reads as it did. -/
def fnExactNormalColouringsUptoRow : OpenClaim := { program := "ytppkcpekknhbmaa", sum := "67152b71066ed5c1de9d3ebf5537b8b2bd2ffc50921b66d6c95bd527f72e5265", func := "loop.example/g01329/laws.FnExactNormalColourings", spec := "fnExactNormalColourings", unfollowed := true, recurses := true, plainKeys := false, apart := false, narrowed := true }
def FnExactNormalColouringsUptoSaid : Prop := fnExactNormalColouringsUptoRow.holds Try.pinned (OpenSpec.upto fnExactNormalColouringsSpec)

/-- 'laws.FnExactDotProduct', WHERE WHAT IT READS IS OF BULK AT MOST 1048576: true; the input reads as it did. -/
def fnExactDotProductUptoRow : OpenClaim := { program := "ytppkcpekknhbmaa", sum := "67152b71066ed5c1de9d3ebf5537b8b2bd2ffc50921b66d6c95bd527f72e5265", func := "loop.example/g01329/laws.FnExactDotProduct", spec := "fnExactDotProduct", unfollowed := true, recurses := true, plainKeys := false, apart := false, narrowed := true }
def FnExactDotProductUptoSaid : Prop := fnExactDotProductUptoRow.holds Try.pinned (OpenSpec.upto fnExactDotProductSpec)

/-- 'laws.FnExactStarProduct', WHERE WHAT IT READS IS OF BULK AT MOST 1048576: true; the input reads as it did. -/
def fnExactStarProductUptoRow : OpenClaim := { program := "ytppkcpekknhbmaa", sum := "67152b71066ed5c1de9d3ebf5537b8b2bd2ffc50921b66d6c95bd527f72e5265", func := "loop.example/g01329/laws.FnExactStarProduct", spec := "fnExactStarProduct", unfollowed := true, recurses := true, plainKeys := false, apart := false, narrowed := true }
def FnExactStarProductUptoSaid : Prop := fnExactStarProductUptoRow.holds Try.pinned (OpenSpec.upto fnExactStarProductSpec)

/-- 'laws.FnExactOpenVertex', WHERE WHAT IT READS IS OF BULK AT MOST 1048576: true; the input reads as it did. -/
def fnExactOpenVertexUptoRow : OpenClaim := { program := "ytppkcpekknhbmaa", sum := "67152b71066ed5c1de9d3ebf5537b8b2bd2ffc50921b66d6c95bd527f72e5265", func := "loop.example/g01329/laws.FnExactOpenVertex", spec := "fnExactOpenVertex", unfollowed := true, recurses := true, plainKeys := false, apart := false, narrowed := true }
def FnExactOpenVertexUptoSaid : Prop := fnExactOpenVertexUptoRow.holds Try.pinned (OpenSpec.upto fnExactOpenVertexSpec)

/-- 'laws.FnExactBridgeEdges', WHERE WHAT IT READS IS OF BULK AT MOST 1048576: true; the input reads as it did. -/
def fnExactBridgeEdgesUptoRow : OpenClaim := { program := "ytppkcpekknhbmaa", sum := "67152b71066ed5c1de9d3ebf5537b8b2bd2ffc50921b66d6c95bd527f72e5265", func := "loop.example/g01329/laws.FnExactBridgeEdges", spec := "fnExactBridgeEdges", unfollowed := true, recurses := true, plainKeys := false, apart := false, narrowed := true }
def FnExactBridgeEdgesUptoSaid : Prop := fnExactBridgeEdgesUptoRow.holds Try.pinned (OpenSpec.upto fnExactBridgeEdgesSpec)

/-- 'laws.FnExactCutEdge', WHERE WHAT IT READS IS OF BULK AT MOST 1048576: true; the input reads as it did. -/
def fnExactCutEdgeUptoRow : OpenClaim := { program := "ytppkcpekknhbmaa", sum := "67152b71066ed5c1de9d3ebf5537b8b2bd2ffc50921b66d6c95bd527f72e5265", func := "loop.example/g01329/laws.FnExactCutEdge", spec := "fnExactCutEdge", unfollowed := true, recurses := true, plainKeys := false, apart := false, narrowed := true }
def FnExactCutEdgeUptoSaid : Prop := fnExactCutEdgeUptoRow.holds Try.pinned (OpenSpec.upto fnExactCutEdgeSpec)

/-- 'laws.FnExactFlowerGraph', WHERE WHAT IT READS IS OF BULK AT MOST 1048576: true; the input reads as it did. -/
def fnExactFlowerGraphUptoRow : OpenClaim := { program := "ytppkcpekknhbmaa", sum := "67152b71066ed5c1de9d3ebf5537b8b2bd2ffc50921b66d6c95bd527f72e5265", func := "loop.example/g01329/laws.FnExactFlowerGraph", spec := "fnExactFlowerGraph", unfollowed := true, recurses := true, plainKeys := false, apart := false, narrowed := true }
def FnExactFlowerGraphUptoSaid : Prop := fnExactFlowerGraphUptoRow.holds Try.pinned (OpenSpec.upto fnExactFlowerGraphSpec)

end Rows
end Go.Proofs.Ytppkcpekknhbmaa
