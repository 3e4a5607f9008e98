/-
  No cell of these rows narrows 'for every input' (looked for: loops, veiled, ifaces, maps, wideKeys, modest, calm, conditions, laid).
  DERIVED. THE GIVEN ROWS OF THIS SEAT. 12 by the template 'for every input the law returns true; each argument reads behind the call as it read before'; 0 by the template 'total and deterministic' (their statements: YtogdcoioflcdiaaTotals.lean).
  GIVEN WITH THE SEED: the statements are not yours to turn. If you find one false, say at which input.
  Laid BY PROGRAM, IN A SANDBOX (cutbox-rows.mjs): the forced cells as the released guide's own fill.sh prints them over the translation 946e7831772ff9e8… (all of the seat's roots in one cut). By AI agents, Wed Nov 11 2026. No macro, syntax, notation, axiom, sorry.
-/
import Derived.Test.YtogdcoioflcdiaaChecked
import GoSem.Claim
import GoSem.ClaimJoined
import GoSem.ClaimMapViews
import Derived.JoinedTies
import Derived.KernelRfl
namespace Go.Proofs.Ytogdcoioflcdiaa
/- THE CELL 'sum', in the pinned program and in every row, IS THE sha256 OF THE DUMP (.gsa) THAT YtogdcoioflcdiaaProg.lean LOADS. Nothing in Lean hashes anything: it is a label: what it is worth is what the hold of that sum in a sandbox is worth. -/
noncomputable def Try.pinned : Pinned := { name := "ytogdcoioflcdiaa", sum := "946e7831772ff9e830e0b70bee61d976b1f91205d903ae98ee4905b08768a41c", checked := Try.checked }
namespace Rows
def none {H : Type} : Left H := { results := [], args := [] }

/-- 'laws.FnExactSumOfSets': WHATEVER THE INPUT: true; the input reads as it did. -/
def fnExactSumOfSetsSpec : ChangeSpec := { name := "fnExactSumOfSets", fn := fun _ => fun
  | [d1, d2, d3] => { results := [.lit (.bool true)], args := [d1, d2, d3] }
  | _ => none }
def fnExactSumOfSetsRow : OpenClaim := { program := "ytogdcoioflcdiaa", sum := "946e7831772ff9e830e0b70bee61d976b1f91205d903ae98ee4905b08768a41c", func := "loop.example/g01329/laws.FnExactSumOfSets", spec := "fnExactSumOfSets", unfollowed := true, recurses := true, plainKeys := false, apart := false }
def FnExactSumOfSetsSaid : Prop := fnExactSumOfSetsRow.holds Try.pinned (OpenSpec.ofChange fnExactSumOfSetsSpec)

/-- ITS FALSE NEIGHBOUR: 'it returns false'. Refute it at one input. -/
def fnExactSumOfSetsWrong : ChangeSpec := { name := "fnExactSumOfSets", fn := fun _ => fun
  | [d1, d2, d3] => { results := [.lit (.bool false)], args := [d1, d2, d3] }
  | _ => none }
def FnExactSumOfSetsWrongFalsely : Prop := fnExactSumOfSetsRow.holds Try.pinned (OpenSpec.ofChange fnExactSumOfSetsWrong)

/-- 'laws.FnExactIsEvenSet': WHATEVER THE INPUT: true; the input reads as it did. -/
def fnExactIsEvenSetSpec : ChangeSpec := { name := "fnExactIsEvenSet", fn := fun _ => fun
  | [d1, d2] => { results := [.lit (.bool true)], args := [d1, d2] }
  | _ => none }
def fnExactIsEvenSetRow : OpenClaim := { program := "ytogdcoioflcdiaa", sum := "946e7831772ff9e830e0b70bee61d976b1f91205d903ae98ee4905b08768a41c", func := "loop.example/g01329/laws.FnExactIsEvenSet", spec := "fnExactIsEvenSet", unfollowed := true, recurses := true, plainKeys := false, apart := false }
def FnExactIsEvenSetSaid : Prop := fnExactIsEvenSetRow.holds Try.pinned (OpenSpec.ofChange fnExactIsEvenSetSpec)

/-- ITS FALSE NEIGHBOUR: 'it returns false'. Refute it at one input. -/
def fnExactIsEvenSetWrong : ChangeSpec := { name := "fnExactIsEvenSet", fn := fun _ => fun
  | [d1, d2] => { results := [.lit (.bool false)], args := [d1, d2] }
  | _ => none }
def FnExactIsEvenSetWrongFalsely : Prop := fnExactIsEvenSetRow.holds Try.pinned (OpenSpec.ofChange fnExactIsEvenSetWrong)

/-- 'laws.FnExactCyclesOfSet': WHATEVER THE INPUT: true; the input reads as it did. -/
def fnExactCyclesOfSetSpec : ChangeSpec := { name := "fnExactCyclesOfSet", fn := fun _ => fun
  | [d1, d2] => { results := [.lit (.bool true)], args := [d1, d2] }
  | _ => none }
def fnExactCyclesOfSetRow : OpenClaim := { program := "ytogdcoioflcdiaa", sum := "946e7831772ff9e830e0b70bee61d976b1f91205d903ae98ee4905b08768a41c", func := "loop.example/g01329/laws.FnExactCyclesOfSet", spec := "fnExactCyclesOfSet", unfollowed := true, recurses := true, plainKeys := false, apart := false }
def FnExactCyclesOfSetSaid : Prop := fnExactCyclesOfSetRow.holds Try.pinned (OpenSpec.ofChange fnExactCyclesOfSetSpec)

/-- ITS FALSE NEIGHBOUR: 'it returns false'. Refute it at one input. -/
def fnExactCyclesOfSetWrong : ChangeSpec := { name := "fnExactCyclesOfSet", fn := fun _ => fun
  | [d1, d2] => { results := [.lit (.bool false)], args := [d1, d2] }
  | _ => none }
def FnExactCyclesOfSetWrongFalsely : Prop := fnExactCyclesOfSetRow.holds Try.pinned (OpenSpec.ofChange fnExactCyclesOfSetWrong)

/-- 'laws.FnExactIsCycle': WHATEVER THE INPUT: true; the input reads as it did. -/
def fnExactIsCycleSpec : ChangeSpec := { name := "fnExactIsCycle", fn := fun _ => fun
  | [d1, d2] => { results := [.lit (.bool true)], args := [d1, d2] }
  | _ => none }
def fnExactIsCycleRow : OpenClaim := { program := "ytogdcoioflcdiaa", sum := "946e7831772ff9e830e0b70bee61d976b1f91205d903ae98ee4905b08768a41c", func := "loop.example/g01329/laws.FnExactIsCycle", spec := "fnExactIsCycle", unfollowed := true, recurses := true, plainKeys := false, apart := false }
def FnExactIsCycleSaid : Prop := fnExactIsCycleRow.holds Try.pinned (OpenSpec.ofChange fnExactIsCycleSpec)

/-- ITS FALSE NEIGHBOUR: 'it returns false'. Refute it at one input. -/
def fnExactIsCycleWrong : ChangeSpec := { name := "fnExactIsCycle", fn := fun _ => fun
  | [d1, d2] => { results := [.lit (.bool false)], args := [d1, d2] }
  | _ => none }
def FnExactIsCycleWrongFalsely : Prop := fnExactIsCycleRow.holds Try.pinned (OpenSpec.ofChange fnExactIsCycleWrong)

/-- 'laws.FnExactCoverOfColouring': WHATEVER THE INPUT: true; the input reads as it did. -/
def fnExactCoverOfColouringSpec : ChangeSpec := { name := "fnExactCoverOfColouring", fn := fun _ => fun
  | [d1, d2] => { results := [.lit (.bool true)], args := [d1, d2] }
  | _ => none }
def fnExactCoverOfColouringRow : OpenClaim := { program := "ytogdcoioflcdiaa", sum := "946e7831772ff9e830e0b70bee61d976b1f91205d903ae98ee4905b08768a41c", func := "loop.example/g01329/laws.FnExactCoverOfColouring", spec := "fnExactCoverOfColouring", unfollowed := true, recurses := true, plainKeys := false, apart := false }
def FnExactCoverOfColouringSaid : Prop := fnExactCoverOfColouringRow.holds Try.pinned (OpenSpec.ofChange fnExactCoverOfColouringSpec)

/-- ITS FALSE NEIGHBOUR: 'it returns false'. Refute it at one input. -/
def fnExactCoverOfColouringWrong : ChangeSpec := { name := "fnExactCoverOfColouring", fn := fun _ => fun
  | [d1, d2] => { results := [.lit (.bool false)], args := [d1, d2] }
  | _ => none }
def FnExactCoverOfColouringWrongFalsely : Prop := fnExactCoverOfColouringRow.holds Try.pinned (OpenSpec.ofChange fnExactCoverOfColouringWrong)

/-- 'laws.FnExactIsDoubleCover': WHATEVER THE INPUT: true; the input reads as it did. -/
def fnExactIsDoubleCoverSpec : ChangeSpec := { name := "fnExactIsDoubleCover", fn := fun _ => fun
  | [d1, d2] => { results := [.lit (.bool true)], args := [d1, d2] }
  | _ => none }
def fnExactIsDoubleCoverRow : OpenClaim := { program := "ytogdcoioflcdiaa", sum := "946e7831772ff9e830e0b70bee61d976b1f91205d903ae98ee4905b08768a41c", func := "loop.example/g01329/laws.FnExactIsDoubleCover", spec := "fnExactIsDoubleCover", unfollowed := true, recurses := true, plainKeys := false, apart := false }
def FnExactIsDoubleCoverSaid : Prop := fnExactIsDoubleCoverRow.holds Try.pinned (OpenSpec.ofChange fnExactIsDoubleCoverSpec)

/-- ITS FALSE NEIGHBOUR: 'it returns false'. Refute it at one input. -/
def fnExactIsDoubleCoverWrong : ChangeSpec := { name := "fnExactIsDoubleCover", fn := fun _ => fun
  | [d1, d2] => { results := [.lit (.bool false)], args := [d1, d2] }
  | _ => none }
def FnExactIsDoubleCoverWrongFalsely : Prop := fnExactIsDoubleCoverRow.holds Try.pinned (OpenSpec.ofChange fnExactIsDoubleCoverWrong)

/-- 'laws.FnExactFacesOf': WHATEVER THE INPUT: true; the input reads as it did. -/
def fnExactFacesOfSpec : ChangeSpec := { name := "fnExactFacesOf", fn := fun _ => fun
  | [d1, d2] => { results := [.lit (.bool true)], args := [d1, d2] }
  | _ => none }
def fnExactFacesOfRow : OpenClaim := { program := "ytogdcoioflcdiaa", sum := "946e7831772ff9e830e0b70bee61d976b1f91205d903ae98ee4905b08768a41c", func := "loop.example/g01329/laws.FnExactFacesOf", spec := "fnExactFacesOf", unfollowed := true, recurses := true, plainKeys := false, apart := false }
def FnExactFacesOfSaid : Prop := fnExactFacesOfRow.holds Try.pinned (OpenSpec.ofChange fnExactFacesOfSpec)

/-- ITS FALSE NEIGHBOUR: 'it returns false'. Refute it at one input. -/
def fnExactFacesOfWrong : ChangeSpec := { name := "fnExactFacesOf", fn := fun _ => fun
  | [d1, d2] => { results := [.lit (.bool false)], args := [d1, d2] }
  | _ => none }
def FnExactFacesOfWrongFalsely : Prop := fnExactFacesOfRow.holds Try.pinned (OpenSpec.ofChange fnExactFacesOfWrong)

/-- 'laws.FnExactGenusOfRotation': WHATEVER THE INPUT: true; the input reads as it did. -/
def fnExactGenusOfRotationSpec : ChangeSpec := { name := "fnExactGenusOfRotation", fn := fun _ => fun
  | [d1, d2] => { results := [.lit (.bool true)], args := [d1, d2] }
  | _ => none }
def fnExactGenusOfRotationRow : OpenClaim := { program := "ytogdcoioflcdiaa", sum := "946e7831772ff9e830e0b70bee61d976b1f91205d903ae98ee4905b08768a41c", func := "loop.example/g01329/laws.FnExactGenusOfRotation", spec := "fnExactGenusOfRotation", unfollowed := true, recurses := true, plainKeys := false, apart := false }
def FnExactGenusOfRotationSaid : Prop := fnExactGenusOfRotationRow.holds Try.pinned (OpenSpec.ofChange fnExactGenusOfRotationSpec)

/-- ITS FALSE NEIGHBOUR: 'it returns false'. Refute it at one input. -/
def fnExactGenusOfRotationWrong : ChangeSpec := { name := "fnExactGenusOfRotation", fn := fun _ => fun
  | [d1, d2] => { results := [.lit (.bool false)], args := [d1, d2] }
  | _ => none }
def FnExactGenusOfRotationWrongFalsely : Prop := fnExactGenusOfRotationRow.holds Try.pinned (OpenSpec.ofChange fnExactGenusOfRotationWrong)

/-- 'laws.FnExactNormalColourings': WHATEVER THE INPUT: true; the input reads as it did. -/
def fnExactNormalColouringsSpec : ChangeSpec := { name := "fnExactNormalColourings", fn := fun _ => fun
  | [d] => { results := [.lit (.bool true)], args := [d] }
  | _ => none }
def fnExactNormalColouringsRow : OpenClaim := { program := "ytogdcoioflcdiaa", sum := "946e7831772ff9e830e0b70bee61d976b1f91205d903ae98ee4905b08768a41c", func := "loop.example/g01329/laws.FnExactNormalColourings", spec := "fnExactNormalColourings", unfollowed := true, recurses := true, plainKeys := false, apart := false }
def FnExactNormalColouringsSaid : Prop := fnExactNormalColouringsRow.holds Try.pinned (OpenSpec.ofChange fnExactNormalColouringsSpec)

/-- ITS FALSE NEIGHBOUR: 'it returns false'. Refute it at one input. -/
def fnExactNormalColouringsWrong : ChangeSpec := { name := "fnExactNormalColourings", fn := fun _ => fun
  | [d] => { results := [.lit (.bool false)], args := [d] }
  | _ => none }
def FnExactNormalColouringsWrongFalsely : Prop := fnExactNormalColouringsRow.holds Try.pinned (OpenSpec.ofChange fnExactNormalColouringsWrong)

/-- 'laws.FnExactCutEdge': WHATEVER THE INPUT: true; the input reads as it did. -/
def fnExactCutEdgeSpec : ChangeSpec := { name := "fnExactCutEdge", fn := fun _ => fun
  | [d1, d2] => { results := [.lit (.bool true)], args := [d1, d2] }
  | _ => none }
def fnExactCutEdgeRow : OpenClaim := { program := "ytogdcoioflcdiaa", sum := "946e7831772ff9e830e0b70bee61d976b1f91205d903ae98ee4905b08768a41c", func := "loop.example/g01329/laws.FnExactCutEdge", spec := "fnExactCutEdge", unfollowed := true, recurses := true, plainKeys := false, apart := false }
def FnExactCutEdgeSaid : Prop := fnExactCutEdgeRow.holds Try.pinned (OpenSpec.ofChange fnExactCutEdgeSpec)

/-- ITS FALSE NEIGHBOUR: 'it returns false'. Refute it at one input. -/
def fnExactCutEdgeWrong : ChangeSpec := { name := "fnExactCutEdge", fn := fun _ => fun
  | [d1, d2] => { results := [.lit (.bool false)], args := [d1, d2] }
  | _ => none }
def FnExactCutEdgeWrongFalsely : Prop := fnExactCutEdgeRow.holds Try.pinned (OpenSpec.ofChange fnExactCutEdgeWrong)

/-- 'laws.FnExactStarProduct': WHATEVER THE INPUT: true; the input reads as it did. -/
def fnExactStarProductSpec : ChangeSpec := { name := "fnExactStarProduct", fn := fun _ => fun
  | [d1, d2, d3, d4] => { results := [.lit (.bool true)], args := [d1, d2, d3, d4] }
  | _ => none }
def fnExactStarProductRow : OpenClaim := { program := "ytogdcoioflcdiaa", sum := "946e7831772ff9e830e0b70bee61d976b1f91205d903ae98ee4905b08768a41c", func := "loop.example/g01329/laws.FnExactStarProduct", spec := "fnExactStarProduct", unfollowed := true, recurses := true, plainKeys := false, apart := false }
def FnExactStarProductSaid : Prop := fnExactStarProductRow.holds Try.pinned (OpenSpec.ofChange fnExactStarProductSpec)

/-- ITS FALSE NEIGHBOUR: 'it returns false'. Refute it at one input. -/
def fnExactStarProductWrong : ChangeSpec := { name := "fnExactStarProduct", fn := fun _ => fun
  | [d1, d2, d3, d4] => { results := [.lit (.bool false)], args := [d1, d2, d3, d4] }
  | _ => none }
def FnExactStarProductWrongFalsely : Prop := fnExactStarProductRow.holds Try.pinned (OpenSpec.ofChange fnExactStarProductWrong)

/-- 'laws.FnExactDotProduct': WHATEVER THE INPUT: true; the input reads as it did. -/
def fnExactDotProductSpec : ChangeSpec := { name := "fnExactDotProduct", fn := fun _ => fun
  | [d1, d2, d3, d4, d5, d6] => { results := [.lit (.bool true)], args := [d1, d2, d3, d4, d5, d6] }
  | _ => none }
def fnExactDotProductRow : OpenClaim := { program := "ytogdcoioflcdiaa", sum := "946e7831772ff9e830e0b70bee61d976b1f91205d903ae98ee4905b08768a41c", func := "loop.example/g01329/laws.FnExactDotProduct", spec := "fnExactDotProduct", unfollowed := true, recurses := true, plainKeys := false, apart := false }
def FnExactDotProductSaid : Prop := fnExactDotProductRow.holds Try.pinned (OpenSpec.ofChange fnExactDotProductSpec)

/-- ITS FALSE NEIGHBOUR: 'it returns false'. Refute it at one input. -/
def fnExactDotProductWrong : ChangeSpec := { name := "fnExactDotProduct", fn := fun _ => fun
  | [d1, d2, d3, d4, d5, d6] => { results := [.lit (.bool false)], args := [d1, d2, d3, d4, d5, d6] }
  | _ => none }
def FnExactDotProductWrongFalsely : Prop := fnExactDotProductRow.holds Try.pinned (OpenSpec.ofChange fnExactDotProductWrong)

/- THE SECOND FORM. 'bulk': how many values and letters a reading holds, each counted each time it is reached (what is shared counts as often as it is met; a slice's spare places count too). A statement '..UptoSaid' is the law's where the arguments, and the package variables that the reading takes, are together of bulk at most 1048576: NARROWER than '..Said'. Prove '..Said' where nothing that the law and all that it calls make is longer than what came in: it says more and counts as full. Else prove '..UptoSaid'. A law counts once. -/
mutual
def uptoBulk {H : Type} : DataW H → Nat
  | .lit (.string bytes) => bytes.length + 1
  | .lit _ => 1
  | .nil => 1
  | .ptr d => uptoBulk d + 1
  | .slice elems spare => uptoBulkAll elems + uptoBulkAll spare + 1
  | .agg parts => uptoBulkAll parts + 1
  | .iface _ d => uptoBulk d + 1
  | .map entries => uptoBulkEntries entries + 1
  | .held _ => 1
def uptoBulkAll {H : Type} : List (DataW H) → Nat
  | [] => 0
  | d :: r => uptoBulk d + uptoBulkAll r
def uptoBulkEntries {H : Type} : List (Lit × DataW H) → Nat
  | [] => 0
  | x :: r => uptoBulkEntry x + uptoBulkEntries r
def uptoBulkEntry {H : Type} : Lit × DataW H → Nat
  | (.string bytes, d) => bytes.length + uptoBulk d + 1
  | (_, d) => uptoBulk d + 1
 end
def uptoSmall : (H : Type) → List (DataW H) → Bool := fun _ ds => decide (uptoBulkAll ds ≤ 1048576)
def OpenSpec.upto (s : _root_.Go.ChangeSpec) : _root_.Go.OpenSpec := { _root_.Go.OpenSpec.ofChange s with cond := some uptoSmall }

/-- 'laws.FnExactSumOfSets', WHERE WHAT IT READS IS OF BULK AT MOST 1048576: true; the input reads as it did. -/
def fnExactSumOfSetsUptoRow : OpenClaim := { program := "ytogdcoioflcdiaa", sum := "946e7831772ff9e830e0b70bee61d976b1f91205d903ae98ee4905b08768a41c", func := "loop.example/g01329/laws.FnExactSumOfSets", spec := "fnExactSumOfSets", unfollowed := true, recurses := true, plainKeys := false, apart := false, narrowed := true }
def FnExactSumOfSetsUptoSaid : Prop := fnExactSumOfSetsUptoRow.holds Try.pinned (OpenSpec.upto fnExactSumOfSetsSpec)

/-- 'laws.FnExactIsEvenSet', WHERE WHAT IT READS IS OF BULK AT MOST 1048576: true; the input reads as it did. -/
def fnExactIsEvenSetUptoRow : OpenClaim := { program := "ytogdcoioflcdiaa", sum := "946e7831772ff9e830e0b70bee61d976b1f91205d903ae98ee4905b08768a41c", func := "loop.example/g01329/laws.FnExactIsEvenSet", spec := "fnExactIsEvenSet", unfollowed := true, recurses := true, plainKeys := false, apart := false, narrowed := true }
def FnExactIsEvenSetUptoSaid : Prop := fnExactIsEvenSetUptoRow.holds Try.pinned (OpenSpec.upto fnExactIsEvenSetSpec)

/-- 'laws.FnExactCyclesOfSet', WHERE WHAT IT READS IS OF BULK AT MOST 1048576: true; the input reads as it did. -/
def fnExactCyclesOfSetUptoRow : OpenClaim := { program := "ytogdcoioflcdiaa", sum := "946e7831772ff9e830e0b70bee61d976b1f91205d903ae98ee4905b08768a41c", func := "loop.example/g01329/laws.FnExactCyclesOfSet", spec := "fnExactCyclesOfSet", unfollowed := true, recurses := true, plainKeys := false, apart := false, narrowed := true }
def FnExactCyclesOfSetUptoSaid : Prop := fnExactCyclesOfSetUptoRow.holds Try.pinned (OpenSpec.upto fnExactCyclesOfSetSpec)

/-- 'laws.FnExactIsCycle', WHERE WHAT IT READS IS OF BULK AT MOST 1048576: true; the input reads as it did. -/
def fnExactIsCycleUptoRow : OpenClaim := { program := "ytogdcoioflcdiaa", sum := "946e7831772ff9e830e0b70bee61d976b1f91205d903ae98ee4905b08768a41c", func := "loop.example/g01329/laws.FnExactIsCycle", spec := "fnExactIsCycle", unfollowed := true, recurses := true, plainKeys := false, apart := false, narrowed := true }
def FnExactIsCycleUptoSaid : Prop := fnExactIsCycleUptoRow.holds Try.pinned (OpenSpec.upto fnExactIsCycleSpec)

/-- 'laws.FnExactCoverOfColouring', WHERE WHAT IT READS IS OF BULK AT MOST 1048576: true; the input reads as it did. -/
def fnExactCoverOfColouringUptoRow : OpenClaim := { program := "ytogdcoioflcdiaa", sum := "946e7831772ff9e830e0b70bee61d976b1f91205d903ae98ee4905b08768a41c", func := "loop.example/g01329/laws.FnExactCoverOfColouring", spec := "fnExactCoverOfColouring", unfollowed := true, recurses := true, plainKeys := false, apart := false, narrowed := true }
def FnExactCoverOfColouringUptoSaid : Prop := fnExactCoverOfColouringUptoRow.holds Try.pinned (OpenSpec.upto fnExactCoverOfColouringSpec)

/-- 'laws.FnExactIsDoubleCover', WHERE WHAT IT READS IS OF BULK AT MOST 1048576: true; the input reads as it did. -/
def fnExactIsDoubleCoverUptoRow : OpenClaim := { program := "ytogdcoioflcdiaa", sum := "946e7831772ff9e830e0b70bee61d976b1f91205d903ae98ee4905b08768a41c", func := "loop.example/g01329/laws.FnExactIsDoubleCover", spec := "fnExactIsDoubleCover", unfollowed := true, recurses := true, plainKeys := false, apart := false, narrowed := true }
def FnExactIsDoubleCoverUptoSaid : Prop := fnExactIsDoubleCoverUptoRow.holds Try.pinned (OpenSpec.upto fnExactIsDoubleCoverSpec)

/-- 'laws.FnExactFacesOf', WHERE WHAT IT READS IS OF BULK AT MOST 1048576: true; the input reads as it did. -/
def fnExactFacesOfUptoRow : OpenClaim := { program := "ytogdcoioflcdiaa", sum := "946e7831772ff9e830e0b70bee61d976b1f91205d903ae98ee4905b08768a41c", func := "loop.example/g01329/laws.FnExactFacesOf", spec := "fnExactFacesOf", unfollowed := true, recurses := true, plainKeys := false, apart := false, narrowed := true }
def FnExactFacesOfUptoSaid : Prop := fnExactFacesOfUptoRow.holds Try.pinned (OpenSpec.upto fnExactFacesOfSpec)

/-- 'laws.FnExactGenusOfRotation', WHERE WHAT IT READS IS OF BULK AT MOST 1048576: true; the input reads as it did. -/
def fnExactGenusOfRotationUptoRow : OpenClaim := { program := "ytogdcoioflcdiaa", sum := "946e7831772ff9e830e0b70bee61d976b1f91205d903ae98ee4905b08768a41c", func := "loop.example/g01329/laws.FnExactGenusOfRotation", spec := "fnExactGenusOfRotation", unfollowed := true, recurses := true, plainKeys := false, apart := false, narrowed := true }
def FnExactGenusOfRotationUptoSaid : Prop := fnExactGenusOfRotationUptoRow.holds Try.pinned (OpenSpec.upto fnExactGenusOfRotationSpec)

/-- 'laws.FnExactNormalColourings', WHERE WHAT IT READS IS OF BULK AT MOST 1048576: true; the input reads as it did. -/
def fnExactNormalColouringsUptoRow : OpenClaim := { program := "ytogdcoioflcdiaa", sum := "946e7831772ff9e830e0b70bee61d976b1f91205d903ae98ee4905b08768a41c", func := "loop.example/g01329/laws.FnExactNormalColourings", spec := "fnExactNormalColourings", unfollowed := true, recurses := true, plainKeys := false, apart := false, narrowed := true }
def FnExactNormalColouringsUptoSaid : Prop := fnExactNormalColouringsUptoRow.holds Try.pinned (OpenSpec.upto fnExactNormalColouringsSpec)

/-- 'laws.FnExactCutEdge', WHERE WHAT IT READS IS OF BULK AT MOST 1048576: true; the input reads as it did. -/
def fnExactCutEdgeUptoRow : OpenClaim := { program := "ytogdcoioflcdiaa", sum := "946e7831772ff9e830e0b70bee61d976b1f91205d903ae98ee4905b08768a41c", func := "loop.example/g01329/laws.FnExactCutEdge", spec := "fnExactCutEdge", unfollowed := true, recurses := true, plainKeys := false, apart := false, narrowed := true }
def FnExactCutEdgeUptoSaid : Prop := fnExactCutEdgeUptoRow.holds Try.pinned (OpenSpec.upto fnExactCutEdgeSpec)

/-- 'laws.FnExactStarProduct', WHERE WHAT IT READS IS OF BULK AT MOST 1048576: true; the input reads as it did. -/
def fnExactStarProductUptoRow : OpenClaim := { program := "ytogdcoioflcdiaa", sum := "946e7831772ff9e830e0b70bee61d976b1f91205d903ae98ee4905b08768a41c", func := "loop.example/g01329/laws.FnExactStarProduct", spec := "fnExactStarProduct", unfollowed := true, recurses := true, plainKeys := false, apart := false, narrowed := true }
def FnExactStarProductUptoSaid : Prop := fnExactStarProductUptoRow.holds Try.pinned (OpenSpec.upto fnExactStarProductSpec)

/-- 'laws.FnExactDotProduct', WHERE WHAT IT READS IS OF BULK AT MOST 1048576: true; the input reads as it did. -/
def fnExactDotProductUptoRow : OpenClaim := { program := "ytogdcoioflcdiaa", sum := "946e7831772ff9e830e0b70bee61d976b1f91205d903ae98ee4905b08768a41c", func := "loop.example/g01329/laws.FnExactDotProduct", spec := "fnExactDotProduct", unfollowed := true, recurses := true, plainKeys := false, apart := false, narrowed := true }
def FnExactDotProductUptoSaid : Prop := fnExactDotProductUptoRow.holds Try.pinned (OpenSpec.upto fnExactDotProductSpec)

end Rows
end Go.Proofs.Ytogdcoioflcdiaa
