/-
  No cell of these rows narrows 'for every input' (looked for: loops, veiled, ifaces, maps, wideKeys, modest, calm, conditions, laid).
  DERIVED. THE GIVEN ROWS OF THIS SEAT. 12 by the template 'for every input the law returns true; each argument reads behind the call as it read before'; 0 by the template 'total and deterministic' (their statements: YthacpadadccioaaTotals.lean).
  GIVEN WITH THE SEED: the statements are not yours to turn. If you find one false, say at which input.
  Laid BY PROGRAM, IN A SANDBOX (cutbox-rows.mjs): the forced cells as the released guide's own fill.sh prints them over the translation 435cca5ffa8c11f4… (all of the seat's roots in one cut). By AI agents, Wed Nov 11 2026. No macro, syntax, notation, axiom, sorry.
-/
import Derived.Test.YthacpadadccioaaChecked
import GoSem.Claim
import GoSem.ClaimJoined
import GoSem.ClaimMapViews
import Derived.JoinedTies
import Derived.KernelRfl
namespace Go.Proofs.Ythacpadadccioaa
/- THE CELL 'sum', in the pinned program and in every row, IS THE sha256 OF THE DUMP (.gsa) THAT YthacpadadccioaaProg.lean LOADS. Nothing in Lean hashes anything: it is a label: what it is worth is what the hold of that sum in a sandbox is worth. -/
noncomputable def Try.pinned : Pinned := { name := "ythacpadadccioaa", sum := "435cca5ffa8c11f40fe1aebdf088d1a31d332361fa2d5d56acb9458b13f8539b", checked := Try.checked }
namespace Rows
def none {H : Type} : Left H := { results := [], args := [] }

/-- 'laws.FnExactCountWaysOf': WHATEVER THE INPUT: true; the input reads as it did. -/
def fnExactCountWaysOfSpec : ChangeSpec := { name := "fnExactCountWaysOf", fn := fun _ => fun
  | [d1, d2, d3, d4] => { results := [.lit (.bool true)], args := [d1, d2, d3, d4] }
  | _ => none }
def fnExactCountWaysOfRow : OpenClaim := { program := "ythacpadadccioaa", sum := "435cca5ffa8c11f40fe1aebdf088d1a31d332361fa2d5d56acb9458b13f8539b", func := "loop.example/g01329/laws.FnExactCountWaysOf", spec := "fnExactCountWaysOf", unfollowed := true, recurses := true, plainKeys := false, apart := false }
def FnExactCountWaysOfSaid : Prop := fnExactCountWaysOfRow.holds Try.pinned (OpenSpec.ofChange fnExactCountWaysOfSpec)

/-- ITS FALSE NEIGHBOUR: 'it returns false'. Refute it at one input. -/
def fnExactCountWaysOfWrong : ChangeSpec := { name := "fnExactCountWaysOf", fn := fun _ => fun
  | [d1, d2, d3, d4] => { results := [.lit (.bool false)], args := [d1, d2, d3, d4] }
  | _ => none }
def FnExactCountWaysOfWrongFalsely : Prop := fnExactCountWaysOfRow.holds Try.pinned (OpenSpec.ofChange fnExactCountWaysOfWrong)

/-- 'laws.FnExactMatchingsOf': WHATEVER THE INPUT: true; the input reads as it did. -/
def fnExactMatchingsOfSpec : ChangeSpec := { name := "fnExactMatchingsOf", fn := fun _ => fun
  | [d] => { results := [.lit (.bool true)], args := [d] }
  | _ => none }
def fnExactMatchingsOfRow : OpenClaim := { program := "ythacpadadccioaa", sum := "435cca5ffa8c11f40fe1aebdf088d1a31d332361fa2d5d56acb9458b13f8539b", func := "loop.example/g01329/laws.FnExactMatchingsOf", spec := "fnExactMatchingsOf", unfollowed := true, recurses := true, plainKeys := false, apart := false }
def FnExactMatchingsOfSaid : Prop := fnExactMatchingsOfRow.holds Try.pinned (OpenSpec.ofChange fnExactMatchingsOfSpec)

/-- ITS FALSE NEIGHBOUR: 'it returns false'. Refute it at one input. -/
def fnExactMatchingsOfWrong : ChangeSpec := { name := "fnExactMatchingsOf", fn := fun _ => fun
  | [d] => { results := [.lit (.bool false)], args := [d] }
  | _ => none }
def FnExactMatchingsOfWrongFalsely : Prop := fnExactMatchingsOfRow.holds Try.pinned (OpenSpec.ofChange fnExactMatchingsOfWrong)

/-- 'laws.FnExactMatchingsWith': WHATEVER THE INPUT: true; the input reads as it did. -/
def fnExactMatchingsWithSpec : ChangeSpec := { name := "fnExactMatchingsWith", fn := fun _ => fun
  | [d1, d2] => { results := [.lit (.bool true)], args := [d1, d2] }
  | _ => none }
def fnExactMatchingsWithRow : OpenClaim := { program := "ythacpadadccioaa", sum := "435cca5ffa8c11f40fe1aebdf088d1a31d332361fa2d5d56acb9458b13f8539b", func := "loop.example/g01329/laws.FnExactMatchingsWith", spec := "fnExactMatchingsWith", unfollowed := true, recurses := true, plainKeys := false, apart := false }
def FnExactMatchingsWithSaid : Prop := fnExactMatchingsWithRow.holds Try.pinned (OpenSpec.ofChange fnExactMatchingsWithSpec)

/-- ITS FALSE NEIGHBOUR: 'it returns false'. Refute it at one input. -/
def fnExactMatchingsWithWrong : ChangeSpec := { name := "fnExactMatchingsWith", fn := fun _ => fun
  | [d1, d2] => { results := [.lit (.bool false)], args := [d1, d2] }
  | _ => none }
def FnExactMatchingsWithWrongFalsely : Prop := fnExactMatchingsWithRow.holds Try.pinned (OpenSpec.ofChange fnExactMatchingsWithWrong)

/-- 'laws.FnExactOddnessOf': WHATEVER THE INPUT: true; the input reads as it did. -/
def fnExactOddnessOfSpec : ChangeSpec := { name := "fnExactOddnessOf", fn := fun _ => fun
  | [d] => { results := [.lit (.bool true)], args := [d] }
  | _ => none }
def fnExactOddnessOfRow : OpenClaim := { program := "ythacpadadccioaa", sum := "435cca5ffa8c11f40fe1aebdf088d1a31d332361fa2d5d56acb9458b13f8539b", func := "loop.example/g01329/laws.FnExactOddnessOf", spec := "fnExactOddnessOf", unfollowed := true, recurses := true, plainKeys := false, apart := false }
def FnExactOddnessOfSaid : Prop := fnExactOddnessOfRow.holds Try.pinned (OpenSpec.ofChange fnExactOddnessOfSpec)

/-- ITS FALSE NEIGHBOUR: 'it returns false'. Refute it at one input. -/
def fnExactOddnessOfWrong : ChangeSpec := { name := "fnExactOddnessOf", fn := fun _ => fun
  | [d] => { results := [.lit (.bool false)], args := [d] }
  | _ => none }
def FnExactOddnessOfWrongFalsely : Prop := fnExactOddnessOfRow.holds Try.pinned (OpenSpec.ofChange fnExactOddnessOfWrong)

/-- 'laws.FnExactBestMatching': WHATEVER THE INPUT: true; the input reads as it did. -/
def fnExactBestMatchingSpec : ChangeSpec := { name := "fnExactBestMatching", fn := fun _ => fun
  | [d] => { results := [.lit (.bool true)], args := [d] }
  | _ => none }
def fnExactBestMatchingRow : OpenClaim := { program := "ythacpadadccioaa", sum := "435cca5ffa8c11f40fe1aebdf088d1a31d332361fa2d5d56acb9458b13f8539b", func := "loop.example/g01329/laws.FnExactBestMatching", spec := "fnExactBestMatching", unfollowed := true, recurses := true, plainKeys := false, apart := false }
def FnExactBestMatchingSaid : Prop := fnExactBestMatchingRow.holds Try.pinned (OpenSpec.ofChange fnExactBestMatchingSpec)

/-- ITS FALSE NEIGHBOUR: 'it returns false'. Refute it at one input. -/
def fnExactBestMatchingWrong : ChangeSpec := { name := "fnExactBestMatching", fn := fun _ => fun
  | [d] => { results := [.lit (.bool false)], args := [d] }
  | _ => none }
def FnExactBestMatchingWrongFalsely : Prop := fnExactBestMatchingRow.holds Try.pinned (OpenSpec.ofChange fnExactBestMatchingWrong)

/-- 'laws.FnExactCountTrees': WHATEVER THE INPUT: true; the input reads as it did. -/
def fnExactCountTreesSpec : ChangeSpec := { name := "fnExactCountTrees", fn := fun _ => fun
  | [d] => { results := [.lit (.bool true)], args := [d] }
  | _ => none }
def fnExactCountTreesRow : OpenClaim := { program := "ythacpadadccioaa", sum := "435cca5ffa8c11f40fe1aebdf088d1a31d332361fa2d5d56acb9458b13f8539b", func := "loop.example/g01329/laws.FnExactCountTrees", spec := "fnExactCountTrees", unfollowed := true, recurses := true, plainKeys := false, apart := false }
def FnExactCountTreesSaid : Prop := fnExactCountTreesRow.holds Try.pinned (OpenSpec.ofChange fnExactCountTreesSpec)

/-- ITS FALSE NEIGHBOUR: 'it returns false'. Refute it at one input. -/
def fnExactCountTreesWrong : ChangeSpec := { name := "fnExactCountTrees", fn := fun _ => fun
  | [d] => { results := [.lit (.bool false)], args := [d] }
  | _ => none }
def FnExactCountTreesWrongFalsely : Prop := fnExactCountTreesRow.holds Try.pinned (OpenSpec.ofChange fnExactCountTreesWrong)

/-- 'laws.FnExactStarProduct': WHATEVER THE INPUT: true; the input reads as it did. -/
def fnExactStarProductSpec : ChangeSpec := { name := "fnExactStarProduct", fn := fun _ => fun
  | [d1, d2, d3, d4] => { results := [.lit (.bool true)], args := [d1, d2, d3, d4] }
  | _ => none }
def fnExactStarProductRow : OpenClaim := { program := "ythacpadadccioaa", sum := "435cca5ffa8c11f40fe1aebdf088d1a31d332361fa2d5d56acb9458b13f8539b", func := "loop.example/g01329/laws.FnExactStarProduct", spec := "fnExactStarProduct", unfollowed := true, recurses := true, plainKeys := false, apart := false }
def FnExactStarProductSaid : Prop := fnExactStarProductRow.holds Try.pinned (OpenSpec.ofChange fnExactStarProductSpec)

/-- ITS FALSE NEIGHBOUR: 'it returns false'. Refute it at one input. -/
def fnExactStarProductWrong : ChangeSpec := { name := "fnExactStarProduct", fn := fun _ => fun
  | [d1, d2, d3, d4] => { results := [.lit (.bool false)], args := [d1, d2, d3, d4] }
  | _ => none }
def FnExactStarProductWrongFalsely : Prop := fnExactStarProductRow.holds Try.pinned (OpenSpec.ofChange fnExactStarProductWrong)

/-- 'laws.FnExactCutEdge': WHATEVER THE INPUT: true; the input reads as it did. -/
def fnExactCutEdgeSpec : ChangeSpec := { name := "fnExactCutEdge", fn := fun _ => fun
  | [d1, d2] => { results := [.lit (.bool true)], args := [d1, d2] }
  | _ => none }
def fnExactCutEdgeRow : OpenClaim := { program := "ythacpadadccioaa", sum := "435cca5ffa8c11f40fe1aebdf088d1a31d332361fa2d5d56acb9458b13f8539b", func := "loop.example/g01329/laws.FnExactCutEdge", spec := "fnExactCutEdge", unfollowed := true, recurses := true, plainKeys := false, apart := false }
def FnExactCutEdgeSaid : Prop := fnExactCutEdgeRow.holds Try.pinned (OpenSpec.ofChange fnExactCutEdgeSpec)

/-- ITS FALSE NEIGHBOUR: 'it returns false'. Refute it at one input. -/
def fnExactCutEdgeWrong : ChangeSpec := { name := "fnExactCutEdge", fn := fun _ => fun
  | [d1, d2] => { results := [.lit (.bool false)], args := [d1, d2] }
  | _ => none }
def FnExactCutEdgeWrongFalsely : Prop := fnExactCutEdgeRow.holds Try.pinned (OpenSpec.ofChange fnExactCutEdgeWrong)

/-- 'laws.FnExactDotProduct': WHATEVER THE INPUT: true; the input reads as it did. -/
def fnExactDotProductSpec : ChangeSpec := { name := "fnExactDotProduct", fn := fun _ => fun
  | [d1, d2, d3, d4, d5, d6] => { results := [.lit (.bool true)], args := [d1, d2, d3, d4, d5, d6] }
  | _ => none }
def fnExactDotProductRow : OpenClaim := { program := "ythacpadadccioaa", sum := "435cca5ffa8c11f40fe1aebdf088d1a31d332361fa2d5d56acb9458b13f8539b", func := "loop.example/g01329/laws.FnExactDotProduct", spec := "fnExactDotProduct", unfollowed := true, recurses := true, plainKeys := false, apart := false }
def FnExactDotProductSaid : Prop := fnExactDotProductRow.holds Try.pinned (OpenSpec.ofChange fnExactDotProductSpec)

/-- ITS FALSE NEIGHBOUR: 'it returns false'. Refute it at one input. -/
def fnExactDotProductWrong : ChangeSpec := { name := "fnExactDotProduct", fn := fun _ => fun
  | [d1, d2, d3, d4, d5, d6] => { results := [.lit (.bool false)], args := [d1, d2, d3, d4, d5, d6] }
  | _ => none }
def FnExactDotProductWrongFalsely : Prop := fnExactDotProductRow.holds Try.pinned (OpenSpec.ofChange fnExactDotProductWrong)

/-- 'laws.FnExactFacesOf': WHATEVER THE INPUT: true; the input reads as it did. -/
def fnExactFacesOfSpec : ChangeSpec := { name := "fnExactFacesOf", fn := fun _ => fun
  | [d1, d2] => { results := [.lit (.bool true)], args := [d1, d2] }
  | _ => none }
def fnExactFacesOfRow : OpenClaim := { program := "ythacpadadccioaa", sum := "435cca5ffa8c11f40fe1aebdf088d1a31d332361fa2d5d56acb9458b13f8539b", func := "loop.example/g01329/laws.FnExactFacesOf", spec := "fnExactFacesOf", unfollowed := true, recurses := true, plainKeys := false, apart := false }
def FnExactFacesOfSaid : Prop := fnExactFacesOfRow.holds Try.pinned (OpenSpec.ofChange fnExactFacesOfSpec)

/-- ITS FALSE NEIGHBOUR: 'it returns false'. Refute it at one input. -/
def fnExactFacesOfWrong : ChangeSpec := { name := "fnExactFacesOf", fn := fun _ => fun
  | [d1, d2] => { results := [.lit (.bool false)], args := [d1, d2] }
  | _ => none }
def FnExactFacesOfWrongFalsely : Prop := fnExactFacesOfRow.holds Try.pinned (OpenSpec.ofChange fnExactFacesOfWrong)

/-- 'laws.FnExactGenusOfRotation': WHATEVER THE INPUT: true; the input reads as it did. -/
def fnExactGenusOfRotationSpec : ChangeSpec := { name := "fnExactGenusOfRotation", fn := fun _ => fun
  | [d1, d2] => { results := [.lit (.bool true)], args := [d1, d2] }
  | _ => none }
def fnExactGenusOfRotationRow : OpenClaim := { program := "ythacpadadccioaa", sum := "435cca5ffa8c11f40fe1aebdf088d1a31d332361fa2d5d56acb9458b13f8539b", func := "loop.example/g01329/laws.FnExactGenusOfRotation", spec := "fnExactGenusOfRotation", unfollowed := true, recurses := true, plainKeys := false, apart := false }
def FnExactGenusOfRotationSaid : Prop := fnExactGenusOfRotationRow.holds Try.pinned (OpenSpec.ofChange fnExactGenusOfRotationSpec)

/-- ITS FALSE NEIGHBOUR: 'it returns false'. Refute it at one input. -/
def fnExactGenusOfRotationWrong : ChangeSpec := { name := "fnExactGenusOfRotation", fn := fun _ => fun
  | [d1, d2] => { results := [.lit (.bool false)], args := [d1, d2] }
  | _ => none }
def FnExactGenusOfRotationWrongFalsely : Prop := fnExactGenusOfRotationRow.holds Try.pinned (OpenSpec.ofChange fnExactGenusOfRotationWrong)

/-- 'laws.FnExactIsOrientedBy': WHATEVER THE INPUT: true; the input reads as it did. -/
def fnExactIsOrientedBySpec : ChangeSpec := { name := "fnExactIsOrientedBy", fn := fun _ => fun
  | [d1, d2, d3] => { results := [.lit (.bool true)], args := [d1, d2, d3] }
  | _ => none }
def fnExactIsOrientedByRow : OpenClaim := { program := "ythacpadadccioaa", sum := "435cca5ffa8c11f40fe1aebdf088d1a31d332361fa2d5d56acb9458b13f8539b", func := "loop.example/g01329/laws.FnExactIsOrientedBy", spec := "fnExactIsOrientedBy", unfollowed := true, recurses := true, plainKeys := false, apart := false }
def FnExactIsOrientedBySaid : Prop := fnExactIsOrientedByRow.holds Try.pinned (OpenSpec.ofChange fnExactIsOrientedBySpec)

/-- ITS FALSE NEIGHBOUR: 'it returns false'. Refute it at one input. -/
def fnExactIsOrientedByWrong : ChangeSpec := { name := "fnExactIsOrientedBy", fn := fun _ => fun
  | [d1, d2, d3] => { results := [.lit (.bool false)], args := [d1, d2, d3] }
  | _ => none }
def FnExactIsOrientedByWrongFalsely : Prop := fnExactIsOrientedByRow.holds Try.pinned (OpenSpec.ofChange fnExactIsOrientedByWrong)

/- THE SECOND FORM. 'bulk': how many values and letters a reading holds, each counted each time it is reached (what is shared counts as often as it is met; a slice's spare places count too). A statement '..UptoSaid' is the law's where the arguments, and the package variables that the reading takes, are together of bulk at most 1048576: NARROWER than '..Said'. Prove '..Said' where nothing that the law and all that it calls make is longer than what came in: it says more and counts as full. Else prove '..UptoSaid'. A law counts once. -/
mutual
def uptoBulk {H : Type} : DataW H → Nat
  | .lit (.string bytes) => bytes.length + 1
  | .lit _ => 1
  | .nil => 1
  | .ptr d => uptoBulk d + 1
  | .slice elems spare => uptoBulkAll elems + uptoBulkAll spare + 1
  | .agg parts => uptoBulkAll parts + 1
  | .iface _ d => uptoBulk d + 1
  | .map entries => uptoBulkEntries entries + 1
  | .held _ => 1
def uptoBulkAll {H : Type} : List (DataW H) → Nat
  | [] => 0
  | d :: r => uptoBulk d + uptoBulkAll r
def uptoBulkEntries {H : Type} : List (Lit × DataW H) → Nat
  | [] => 0
  | x :: r => uptoBulkEntry x + uptoBulkEntries r
def uptoBulkEntry {H : Type} : Lit × DataW H → Nat
  | (.string bytes, d) => bytes.length + uptoBulk d + 1
  | (_, d) => uptoBulk d + 1
 end
def uptoSmall : (H : Type) → List (DataW H) → Bool := fun _ ds => decide (uptoBulkAll ds ≤ 1048576)
def OpenSpec.upto (s : _root_.Go.ChangeSpec) : _root_.Go.OpenSpec := { _root_.Go.OpenSpec.ofChange s with cond := some uptoSmall }

/-- 'laws.FnExactCountWaysOf', WHERE WHAT IT READS IS OF BULK AT MOST 1048576: true; the input reads as it did. -/
def fnExactCountWaysOfUptoRow : OpenClaim := { program := "ythacpadadccioaa", sum := "435cca5ffa8c11f40fe1aebdf088d1a31d332361fa2d5d56acb9458b13f8539b", func := "loop.example/g01329/laws.FnExactCountWaysOf", spec := "fnExactCountWaysOf", unfollowed := true, recurses := true, plainKeys := false, apart := false, narrowed := true }
def FnExactCountWaysOfUptoSaid : Prop := fnExactCountWaysOfUptoRow.holds Try.pinned (OpenSpec.upto fnExactCountWaysOfSpec)

/-- 'laws.FnExactMatchingsOf', WHERE WHAT IT READS IS OF BULK AT MOST 1048576: true; the input reads as it did. -/
def fnExactMatchingsOfUptoRow : OpenClaim := { program := "ythacpadadccioaa", sum := "435cca5ffa8c11f40fe1aebdf088d1a31d332361fa2d5d56acb9458b13f8539b", func := "loop.example/g01329/laws.FnExactMatchingsOf", spec := "fnExactMatchingsOf", unfollowed := true, recurses := true, plainKeys := false, apart := false, narrowed := true }
def FnExactMatchingsOfUptoSaid : Prop := fnExactMatchingsOfUptoRow.holds Try.pinned (OpenSpec.upto fnExactMatchingsOfSpec)

/-- 'laws.FnExactMatchingsWith', WHERE WHAT IT READS IS OF BULK AT MOST 1048576: true; the input reads as it did. -/
def fnExactMatchingsWithUptoRow : OpenClaim := { program := "ythacpadadccioaa", sum := "435cca5ffa8c11f40fe1aebdf088d1a31d332361fa2d5d56acb9458b13f8539b", func := "loop.example/g01329/laws.FnExactMatchingsWith", spec := "fnExactMatchingsWith", unfollowed := true, recurses := true, plainKeys := false, apart := false, narrowed := true }
def FnExactMatchingsWithUptoSaid : Prop := fnExactMatchingsWithUptoRow.holds Try.pinned (OpenSpec.upto fnExactMatchingsWithSpec)

/-- 'laws.FnExactOddnessOf', WHERE WHAT IT READS IS OF BULK AT MOST 1048576: true; the input reads as it did. -/
def fnExactOddnessOfUptoRow : OpenClaim := { program := "ythacpadadccioaa", sum := "435cca5ffa8c11f40fe1aebdf088d1a31d332361fa2d5d56acb9458b13f8539b", func := "loop.example/g01329/laws.FnExactOddnessOf", spec := "fnExactOddnessOf", unfollowed := true, recurses := true, plainKeys := false, apart := false, narrowed := true }
def FnExactOddnessOfUptoSaid : Prop := fnExactOddnessOfUptoRow.holds Try.pinned (OpenSpec.upto fnExactOddnessOfSpec)

/-- 'laws.FnExactBestMatching', WHERE WHAT IT READS IS OF BULK AT MOST 1048576: true; the input reads as it did. -/
def fnExactBestMatchingUptoRow : OpenClaim := { program := "ythacpadadccioaa", sum := "435cca5ffa8c11f40fe1aebdf088d1a31d332361fa2d5d56acb9458b13f8539b", func := "loop.example/g01329/laws.FnExactBestMatching", spec := "fnExactBestMatching", unfollowed := true, recurses := true, plainKeys := false, apart := false, narrowed := true }
def FnExactBestMatchingUptoSaid : Prop := fnExactBestMatchingUptoRow.holds Try.pinned (OpenSpec.upto fnExactBestMatchingSpec)

/-- 'laws.FnExactCountTrees', WHERE WHAT IT READS IS OF BULK AT MOST 1048576: true; the input reads as it did. -/
def fnExactCountTreesUptoRow : OpenClaim := { program := "ythacpadadccioaa", sum := "435cca5ffa8c11f40fe1aebdf088d1a31d332361fa2d5d56acb9458b13f8539b", func := "loop.example/g01329/laws.FnExactCountTrees", spec := "fnExactCountTrees", unfollowed := true, recurses := true, plainKeys := false, apart := false, narrowed := true }
def FnExactCountTreesUptoSaid : Prop := fnExactCountTreesUptoRow.holds Try.pinned (OpenSpec.upto fnExactCountTreesSpec)

/-- 'laws.FnExactStarProduct', WHERE WHAT IT READS IS OF BULK AT MOST 1048576: true; the input reads as it did. -/
def fnExactStarProductUptoRow : OpenClaim := { program := "ythacpadadccioaa", sum := "435cca5ffa8c11f40fe1aebdf088d1a31d332361fa2d5d56acb9458b13f8539b", func := "loop.example/g01329/laws.FnExactStarProduct", spec := "fnExactStarProduct", unfollowed := true, recurses := true, plainKeys := false, apart := false, narrowed := true }
def FnExactStarProductUptoSaid : Prop := fnExactStarProductUptoRow.holds Try.pinned (OpenSpec.upto fnExactStarProductSpec)

/-- 'laws.FnExactCutEdge', WHERE WHAT IT READS IS OF BULK AT MOST 1048576: true; the input reads as it did. -/
def fnExactCutEdgeUptoRow : OpenClaim := { program := "ythacpadadccioaa", sum := "435cca5ffa8c11f40fe1aebdf088d1a31d332361fa2d5d56acb9458b13f8539b", func := "loop.example/g01329/laws.FnExactCutEdge", spec := "fnExactCutEdge", unfollowed := true, recurses := true, plainKeys := false, apart := false, narrowed := true }
def FnExactCutEdgeUptoSaid : Prop := fnExactCutEdgeUptoRow.holds Try.pinned (OpenSpec.upto fnExactCutEdgeSpec)

/-- 'laws.FnExactDotProduct', WHERE WHAT IT READS IS OF BULK AT MOST 1048576: true; the input reads as it did. -/
def fnExactDotProductUptoRow : OpenClaim := { program := "ythacpadadccioaa", sum := "435cca5ffa8c11f40fe1aebdf088d1a31d332361fa2d5d56acb9458b13f8539b", func := "loop.example/g01329/laws.FnExactDotProduct", spec := "fnExactDotProduct", unfollowed := true, recurses := true, plainKeys := false, apart := false, narrowed := true }
def FnExactDotProductUptoSaid : Prop := fnExactDotProductUptoRow.holds Try.pinned (OpenSpec.upto fnExactDotProductSpec)

/-- 'laws.FnExactFacesOf', WHERE WHAT IT READS IS OF BULK AT MOST 1048576: true; the input reads as it did. -/
def fnExactFacesOfUptoRow : OpenClaim := { program := "ythacpadadccioaa", sum := "435cca5ffa8c11f40fe1aebdf088d1a31d332361fa2d5d56acb9458b13f8539b", func := "loop.example/g01329/laws.FnExactFacesOf", spec := "fnExactFacesOf", unfollowed := true, recurses := true, plainKeys := false, apart := false, narrowed := true }
def FnExactFacesOfUptoSaid : Prop := fnExactFacesOfUptoRow.holds Try.pinned (OpenSpec.upto fnExactFacesOfSpec)

/-- 'laws.FnExactGenusOfRotation', WHERE WHAT IT READS IS OF BULK AT MOST 1048576: true; the input reads as it did. -/
def fnExactGenusOfRotationUptoRow : OpenClaim := { program := "ythacpadadccioaa", sum := "435cca5ffa8c11f40fe1aebdf088d1a31d332361fa2d5d56acb9458b13f8539b", func := "loop.example/g01329/laws.FnExactGenusOfRotation", spec := "fnExactGenusOfRotation", unfollowed := true, recurses := true, plainKeys := false, apart := false, narrowed := true }
def FnExactGenusOfRotationUptoSaid : Prop := fnExactGenusOfRotationUptoRow.holds Try.pinned (OpenSpec.upto fnExactGenusOfRotationSpec)

/-- 'laws.FnExactIsOrientedBy', WHERE WHAT IT READS IS OF BULK AT MOST 1048576: true; the input reads as it did. -/
def fnExactIsOrientedByUptoRow : OpenClaim := { program := "ythacpadadccioaa", sum := "435cca5ffa8c11f40fe1aebdf088d1a31d332361fa2d5d56acb9458b13f8539b", func := "loop.example/g01329/laws.FnExactIsOrientedBy", spec := "fnExactIsOrientedBy", unfollowed := true, recurses := true, plainKeys := false, apart := false, narrowed := true }
def FnExactIsOrientedByUptoSaid : Prop := fnExactIsOrientedByUptoRow.holds Try.pinned (OpenSpec.upto fnExactIsOrientedBySpec)

end Rows
end Go.Proofs.Ythacpadadccioaa
