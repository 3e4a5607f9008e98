/-
  No cell of these rows narrows 'for every input' (looked for: loops, veiled, ifaces, maps, wideKeys, modest, calm, conditions, laid).
  DERIVED. THE GIVEN ROWS OF THIS SEAT. 12 by the template 'for every input the law returns true; each argument reads behind the call as it read before'; 0 by the template 'total and deterministic' (their statements: YtonlpihbpbnnmaaTotals.lean).
  GIVEN WITH THE SEED: the statements are not yours to turn. If you find one false, say at which input.
  Laid BY PROGRAM, IN A SANDBOX (cutbox-rows.mjs): the forced cells as the released guide's own fill.sh prints them over the translation e053e8fc01e59c7c… (all of the seat's roots in one cut). By AI agents, Wed Nov 11 2026. No macro, syntax, notation, axiom, sorry.
-/
import Derived.Test.YtonlpihbpbnnmaaChecked
import GoSem.Claim
import GoSem.ClaimJoined
import GoSem.ClaimMapViews
import Derived.JoinedTies
import Derived.KernelRfl
namespace Go.Proofs.Ytonlpihbpbnnmaa
/- THE CELL 'sum', in the pinned program and in every row, IS THE sha256 OF THE DUMP (.gsa) THAT YtonlpihbpbnnmaaProg.lean LOADS. Nothing in Lean hashes anything: it is a label: what it is worth is what the hold of that sum in a sandbox is worth. -/
noncomputable def Try.pinned : Pinned := { name := "ytonlpihbpbnnmaa", sum := "e053e8fc01e59c7c16f605be37c0786ae1c5e90fba36ddefd6fc9e720859642c", checked := Try.checked }
namespace Rows
def none {H : Type} : Left H := { results := [], args := [] }

/-- 'laws.FnExactAreClose': WHATEVER THE INPUT: true; the input reads as it did. -/
def fnExactAreCloseSpec : ChangeSpec := { name := "fnExactAreClose", fn := fun _ => fun
  | [d1, d2, d3] => { results := [.lit (.bool true)], args := [d1, d2, d3] }
  | _ => none }
def fnExactAreCloseRow : OpenClaim := { program := "ytonlpihbpbnnmaa", sum := "e053e8fc01e59c7c16f605be37c0786ae1c5e90fba36ddefd6fc9e720859642c", func := "loop.example/g01329/laws.FnExactAreClose", spec := "fnExactAreClose", unfollowed := true, recurses := true, plainKeys := false, apart := false }
def FnExactAreCloseSaid : Prop := fnExactAreCloseRow.holds Try.pinned (OpenSpec.ofChange fnExactAreCloseSpec)

/-- ITS FALSE NEIGHBOUR: 'it returns false'. Refute it at one input. -/
def fnExactAreCloseWrong : ChangeSpec := { name := "fnExactAreClose", fn := fun _ => fun
  | [d1, d2, d3] => { results := [.lit (.bool false)], args := [d1, d2, d3] }
  | _ => none }
def FnExactAreCloseWrongFalsely : Prop := fnExactAreCloseRow.holds Try.pinned (OpenSpec.ofChange fnExactAreCloseWrong)

/-- 'laws.FnExactIsCircular': WHATEVER THE INPUT: true; the input reads as it did. -/
def fnExactIsCircularSpec : ChangeSpec := { name := "fnExactIsCircular", fn := fun _ => fun
  | [d1, d2, d3, d4] => { results := [.lit (.bool true)], args := [d1, d2, d3, d4] }
  | _ => none }
def fnExactIsCircularRow : OpenClaim := { program := "ytonlpihbpbnnmaa", sum := "e053e8fc01e59c7c16f605be37c0786ae1c5e90fba36ddefd6fc9e720859642c", func := "loop.example/g01329/laws.FnExactIsCircular", spec := "fnExactIsCircular", unfollowed := true, recurses := true, plainKeys := false, apart := false }
def FnExactIsCircularSaid : Prop := fnExactIsCircularRow.holds Try.pinned (OpenSpec.ofChange fnExactIsCircularSpec)

/-- ITS FALSE NEIGHBOUR: 'it returns false'. Refute it at one input. -/
def fnExactIsCircularWrong : ChangeSpec := { name := "fnExactIsCircular", fn := fun _ => fun
  | [d1, d2, d3, d4] => { results := [.lit (.bool false)], args := [d1, d2, d3, d4] }
  | _ => none }
def FnExactIsCircularWrongFalsely : Prop := fnExactIsCircularRow.holds Try.pinned (OpenSpec.ofChange fnExactIsCircularWrong)

/-- 'laws.FnExactIsStrong': WHATEVER THE INPUT: true; the input reads as it did. -/
def fnExactIsStrongSpec : ChangeSpec := { name := "fnExactIsStrong", fn := fun _ => fun
  | [d1, d2, d3] => { results := [.lit (.bool true)], args := [d1, d2, d3] }
  | _ => none }
def fnExactIsStrongRow : OpenClaim := { program := "ytonlpihbpbnnmaa", sum := "e053e8fc01e59c7c16f605be37c0786ae1c5e90fba36ddefd6fc9e720859642c", func := "loop.example/g01329/laws.FnExactIsStrong", spec := "fnExactIsStrong", unfollowed := true, recurses := true, plainKeys := false, apart := false }
def FnExactIsStrongSaid : Prop := fnExactIsStrongRow.holds Try.pinned (OpenSpec.ofChange fnExactIsStrongSpec)

/-- ITS FALSE NEIGHBOUR: 'it returns false'. Refute it at one input. -/
def fnExactIsStrongWrong : ChangeSpec := { name := "fnExactIsStrong", fn := fun _ => fun
  | [d1, d2, d3] => { results := [.lit (.bool false)], args := [d1, d2, d3] }
  | _ => none }
def FnExactIsStrongWrongFalsely : Prop := fnExactIsStrongRow.holds Try.pinned (OpenSpec.ofChange fnExactIsStrongWrong)

/-- 'laws.FnExactIsTotal': WHATEVER THE INPUT: true; the input reads as it did. -/
def fnExactIsTotalSpec : ChangeSpec := { name := "fnExactIsTotal", fn := fun _ => fun
  | [d1, d2, d3] => { results := [.lit (.bool true)], args := [d1, d2, d3] }
  | _ => none }
def fnExactIsTotalRow : OpenClaim := { program := "ytonlpihbpbnnmaa", sum := "e053e8fc01e59c7c16f605be37c0786ae1c5e90fba36ddefd6fc9e720859642c", func := "loop.example/g01329/laws.FnExactIsTotal", spec := "fnExactIsTotal", unfollowed := true, recurses := true, plainKeys := false, apart := false }
def FnExactIsTotalSaid : Prop := fnExactIsTotalRow.holds Try.pinned (OpenSpec.ofChange fnExactIsTotalSpec)

/-- ITS FALSE NEIGHBOUR: 'it returns false'. Refute it at one input. -/
def fnExactIsTotalWrong : ChangeSpec := { name := "fnExactIsTotal", fn := fun _ => fun
  | [d1, d2, d3] => { results := [.lit (.bool false)], args := [d1, d2, d3] }
  | _ => none }
def FnExactIsTotalWrongFalsely : Prop := fnExactIsTotalRow.holds Try.pinned (OpenSpec.ofChange fnExactIsTotalWrong)

/-- 'laws.FnExactWeakSet': WHATEVER THE INPUT: true; the input reads as it did. -/
def fnExactWeakSetSpec : ChangeSpec := { name := "fnExactWeakSet", fn := fun _ => fun
  | [d] => { results := [.lit (.bool true)], args := [d] }
  | _ => none }
def fnExactWeakSetRow : OpenClaim := { program := "ytonlpihbpbnnmaa", sum := "e053e8fc01e59c7c16f605be37c0786ae1c5e90fba36ddefd6fc9e720859642c", func := "loop.example/g01329/laws.FnExactWeakSet", spec := "fnExactWeakSet", unfollowed := true, recurses := true, plainKeys := false, apart := false }
def FnExactWeakSetSaid : Prop := fnExactWeakSetRow.holds Try.pinned (OpenSpec.ofChange fnExactWeakSetSpec)

/-- ITS FALSE NEIGHBOUR: 'it returns false'. Refute it at one input. -/
def fnExactWeakSetWrong : ChangeSpec := { name := "fnExactWeakSet", fn := fun _ => fun
  | [d] => { results := [.lit (.bool false)], args := [d] }
  | _ => none }
def FnExactWeakSetWrongFalsely : Prop := fnExactWeakSetRow.holds Try.pinned (OpenSpec.ofChange fnExactWeakSetWrong)

/-- 'laws.FnExactResistanceOf': WHATEVER THE INPUT: true; the input reads as it did. -/
def fnExactResistanceOfSpec : ChangeSpec := { name := "fnExactResistanceOf", fn := fun _ => fun
  | [d] => { results := [.lit (.bool true)], args := [d] }
  | _ => none }
def fnExactResistanceOfRow : OpenClaim := { program := "ytonlpihbpbnnmaa", sum := "e053e8fc01e59c7c16f605be37c0786ae1c5e90fba36ddefd6fc9e720859642c", func := "loop.example/g01329/laws.FnExactResistanceOf", spec := "fnExactResistanceOf", unfollowed := true, recurses := true, plainKeys := false, apart := false }
def FnExactResistanceOfSaid : Prop := fnExactResistanceOfRow.holds Try.pinned (OpenSpec.ofChange fnExactResistanceOfSpec)

/-- ITS FALSE NEIGHBOUR: 'it returns false'. Refute it at one input. -/
def fnExactResistanceOfWrong : ChangeSpec := { name := "fnExactResistanceOf", fn := fun _ => fun
  | [d] => { results := [.lit (.bool false)], args := [d] }
  | _ => none }
def FnExactResistanceOfWrongFalsely : Prop := fnExactResistanceOfRow.holds Try.pinned (OpenSpec.ofChange fnExactResistanceOfWrong)

/-- 'laws.FnExactCircularOf': WHATEVER THE INPUT: true; the input reads as it did. -/
def fnExactCircularOfSpec : ChangeSpec := { name := "fnExactCircularOf", fn := fun _ => fun
  | [d1, d2, d3] => { results := [.lit (.bool true)], args := [d1, d2, d3] }
  | _ => none }
def fnExactCircularOfRow : OpenClaim := { program := "ytonlpihbpbnnmaa", sum := "e053e8fc01e59c7c16f605be37c0786ae1c5e90fba36ddefd6fc9e720859642c", func := "loop.example/g01329/laws.FnExactCircularOf", spec := "fnExactCircularOf", unfollowed := true, recurses := true, plainKeys := false, apart := false }
def FnExactCircularOfSaid : Prop := fnExactCircularOfRow.holds Try.pinned (OpenSpec.ofChange fnExactCircularOfSpec)

/-- ITS FALSE NEIGHBOUR: 'it returns false'. Refute it at one input. -/
def fnExactCircularOfWrong : ChangeSpec := { name := "fnExactCircularOf", fn := fun _ => fun
  | [d1, d2, d3] => { results := [.lit (.bool false)], args := [d1, d2, d3] }
  | _ => none }
def FnExactCircularOfWrongFalsely : Prop := fnExactCircularOfRow.holds Try.pinned (OpenSpec.ofChange fnExactCircularOfWrong)

/-- 'laws.FnExactStrongNumber': WHATEVER THE INPUT: true; the input reads as it did. -/
def fnExactStrongNumberSpec : ChangeSpec := { name := "fnExactStrongNumber", fn := fun _ => fun
  | [d] => { results := [.lit (.bool true)], args := [d] }
  | _ => none }
def fnExactStrongNumberRow : OpenClaim := { program := "ytonlpihbpbnnmaa", sum := "e053e8fc01e59c7c16f605be37c0786ae1c5e90fba36ddefd6fc9e720859642c", func := "loop.example/g01329/laws.FnExactStrongNumber", spec := "fnExactStrongNumber", unfollowed := true, recurses := true, plainKeys := false, apart := false }
def FnExactStrongNumberSaid : Prop := fnExactStrongNumberRow.holds Try.pinned (OpenSpec.ofChange fnExactStrongNumberSpec)

/-- ITS FALSE NEIGHBOUR: 'it returns false'. Refute it at one input. -/
def fnExactStrongNumberWrong : ChangeSpec := { name := "fnExactStrongNumber", fn := fun _ => fun
  | [d] => { results := [.lit (.bool false)], args := [d] }
  | _ => none }
def FnExactStrongNumberWrongFalsely : Prop := fnExactStrongNumberRow.holds Try.pinned (OpenSpec.ofChange fnExactStrongNumberWrong)

/-- 'laws.FnExactTotalNumber': WHATEVER THE INPUT: true; the input reads as it did. -/
def fnExactTotalNumberSpec : ChangeSpec := { name := "fnExactTotalNumber", fn := fun _ => fun
  | [d] => { results := [.lit (.bool true)], args := [d] }
  | _ => none }
def fnExactTotalNumberRow : OpenClaim := { program := "ytonlpihbpbnnmaa", sum := "e053e8fc01e59c7c16f605be37c0786ae1c5e90fba36ddefd6fc9e720859642c", func := "loop.example/g01329/laws.FnExactTotalNumber", spec := "fnExactTotalNumber", unfollowed := true, recurses := true, plainKeys := false, apart := false }
def FnExactTotalNumberSaid : Prop := fnExactTotalNumberRow.holds Try.pinned (OpenSpec.ofChange fnExactTotalNumberSpec)

/-- ITS FALSE NEIGHBOUR: 'it returns false'. Refute it at one input. -/
def fnExactTotalNumberWrong : ChangeSpec := { name := "fnExactTotalNumber", fn := fun _ => fun
  | [d] => { results := [.lit (.bool false)], args := [d] }
  | _ => none }
def FnExactTotalNumberWrongFalsely : Prop := fnExactTotalNumberRow.holds Try.pinned (OpenSpec.ofChange fnExactTotalNumberWrong)

/-- 'laws.FnExactIsOrientedBy': WHATEVER THE INPUT: true; the input reads as it did. -/
def fnExactIsOrientedBySpec : ChangeSpec := { name := "fnExactIsOrientedBy", fn := fun _ => fun
  | [d1, d2, d3] => { results := [.lit (.bool true)], args := [d1, d2, d3] }
  | _ => none }
def fnExactIsOrientedByRow : OpenClaim := { program := "ytonlpihbpbnnmaa", sum := "e053e8fc01e59c7c16f605be37c0786ae1c5e90fba36ddefd6fc9e720859642c", func := "loop.example/g01329/laws.FnExactIsOrientedBy", spec := "fnExactIsOrientedBy", unfollowed := true, recurses := true, plainKeys := false, apart := false }
def FnExactIsOrientedBySaid : Prop := fnExactIsOrientedByRow.holds Try.pinned (OpenSpec.ofChange fnExactIsOrientedBySpec)

/-- ITS FALSE NEIGHBOUR: 'it returns false'. Refute it at one input. -/
def fnExactIsOrientedByWrong : ChangeSpec := { name := "fnExactIsOrientedBy", fn := fun _ => fun
  | [d1, d2, d3] => { results := [.lit (.bool false)], args := [d1, d2, d3] }
  | _ => none }
def FnExactIsOrientedByWrongFalsely : Prop := fnExactIsOrientedByRow.holds Try.pinned (OpenSpec.ofChange fnExactIsOrientedByWrong)

/-- 'laws.FnExactCutEdge': WHATEVER THE INPUT: true; the input reads as it did. -/
def fnExactCutEdgeSpec : ChangeSpec := { name := "fnExactCutEdge", fn := fun _ => fun
  | [d1, d2] => { results := [.lit (.bool true)], args := [d1, d2] }
  | _ => none }
def fnExactCutEdgeRow : OpenClaim := { program := "ytonlpihbpbnnmaa", sum := "e053e8fc01e59c7c16f605be37c0786ae1c5e90fba36ddefd6fc9e720859642c", func := "loop.example/g01329/laws.FnExactCutEdge", spec := "fnExactCutEdge", unfollowed := true, recurses := true, plainKeys := false, apart := false }
def FnExactCutEdgeSaid : Prop := fnExactCutEdgeRow.holds Try.pinned (OpenSpec.ofChange fnExactCutEdgeSpec)

/-- ITS FALSE NEIGHBOUR: 'it returns false'. Refute it at one input. -/
def fnExactCutEdgeWrong : ChangeSpec := { name := "fnExactCutEdge", fn := fun _ => fun
  | [d1, d2] => { results := [.lit (.bool false)], args := [d1, d2] }
  | _ => none }
def FnExactCutEdgeWrongFalsely : Prop := fnExactCutEdgeRow.holds Try.pinned (OpenSpec.ofChange fnExactCutEdgeWrong)

/-- 'laws.FnExactStarProduct': WHATEVER THE INPUT: true; the input reads as it did. -/
def fnExactStarProductSpec : ChangeSpec := { name := "fnExactStarProduct", fn := fun _ => fun
  | [d1, d2, d3, d4] => { results := [.lit (.bool true)], args := [d1, d2, d3, d4] }
  | _ => none }
def fnExactStarProductRow : OpenClaim := { program := "ytonlpihbpbnnmaa", sum := "e053e8fc01e59c7c16f605be37c0786ae1c5e90fba36ddefd6fc9e720859642c", func := "loop.example/g01329/laws.FnExactStarProduct", spec := "fnExactStarProduct", unfollowed := true, recurses := true, plainKeys := false, apart := false }
def FnExactStarProductSaid : Prop := fnExactStarProductRow.holds Try.pinned (OpenSpec.ofChange fnExactStarProductSpec)

/-- ITS FALSE NEIGHBOUR: 'it returns false'. Refute it at one input. -/
def fnExactStarProductWrong : ChangeSpec := { name := "fnExactStarProduct", fn := fun _ => fun
  | [d1, d2, d3, d4] => { results := [.lit (.bool false)], args := [d1, d2, d3, d4] }
  | _ => none }
def FnExactStarProductWrongFalsely : Prop := fnExactStarProductRow.holds Try.pinned (OpenSpec.ofChange fnExactStarProductWrong)

/- THE SECOND FORM. 'bulk': how many values and letters a reading holds, each counted each time it is reached (what is shared counts as often as it is met; a slice's spare places count too). A statement '..UptoSaid' is the law's where the arguments, and the package variables that the reading takes, are together of bulk at most 1048576: NARROWER than '..Said'. Prove '..Said' where nothing that the law and all that it calls make is longer than what came in: it says more and counts as full. Else prove '..UptoSaid'. A law counts once. -/
mutual
def uptoBulk {H : Type} : DataW H → Nat
  | .lit (.string bytes) => bytes.length + 1
  | .lit _ => 1
  | .nil => 1
  | .ptr d => uptoBulk d + 1
  | .slice elems spare => uptoBulkAll elems + uptoBulkAll spare + 1
  | .agg parts => uptoBulkAll parts + 1
  | .iface _ d => uptoBulk d + 1
  | .map entries => uptoBulkEntries entries + 1
  | .held _ => 1
def uptoBulkAll {H : Type} : List (DataW H) → Nat
  | [] => 0
  | d :: r => uptoBulk d + uptoBulkAll r
def uptoBulkEntries {H : Type} : List (Lit × DataW H) → Nat
  | [] => 0
  | x :: r => uptoBulkEntry x + uptoBulkEntries r
def uptoBulkEntry {H : Type} : Lit × DataW H → Nat
  | (.string bytes, d) => bytes.length + uptoBulk d + 1
  | (_, d) => uptoBulk d + 1
 end
def uptoSmall : (H : Type) → List (DataW H) → Bool := fun _ ds => decide (uptoBulkAll ds ≤ 1048576)
def OpenSpec.upto (s : _root_.Go.ChangeSpec) : _root_.Go.OpenSpec := { _root_.Go.OpenSpec.ofChange s with cond := some uptoSmall }

/-- 'laws.FnExactAreClose', WHERE WHAT IT READS IS OF BULK AT MOST 1048576: true; the input reads as it did. -/
def fnExactAreCloseUptoRow : OpenClaim := { program := "ytonlpihbpbnnmaa", sum := "e053e8fc01e59c7c16f605be37c0786ae1c5e90fba36ddefd6fc9e720859642c", func := "loop.example/g01329/laws.FnExactAreClose", spec := "fnExactAreClose", unfollowed := true, recurses := true, plainKeys := false, apart := false, narrowed := true }
def FnExactAreCloseUptoSaid : Prop := fnExactAreCloseUptoRow.holds Try.pinned (OpenSpec.upto fnExactAreCloseSpec)

/-- 'laws.FnExactIsCircular', WHERE WHAT IT READS IS OF BULK AT MOST 1048576: true; the input reads as it did. -/
def fnExactIsCircularUptoRow : OpenClaim := { program := "ytonlpihbpbnnmaa", sum := "e053e8fc01e59c7c16f605be37c0786ae1c5e90fba36ddefd6fc9e720859642c", func := "loop.example/g01329/laws.FnExactIsCircular", spec := "fnExactIsCircular", unfollowed := true, recurses := true, plainKeys := false, apart := false, narrowed := true }
def FnExactIsCircularUptoSaid : Prop := fnExactIsCircularUptoRow.holds Try.pinned (OpenSpec.upto fnExactIsCircularSpec)

/-- 'laws.FnExactIsStrong', WHERE WHAT IT READS IS OF BULK AT MOST 1048576: true; the input reads as it did. -/
def fnExactIsStrongUptoRow : OpenClaim := { program := "ytonlpihbpbnnmaa", sum := "e053e8fc01e59c7c16f605be37c0786ae1c5e90fba36ddefd6fc9e720859642c", func := "loop.example/g01329/laws.FnExactIsStrong", spec := "fnExactIsStrong", unfollowed := true, recurses := true, plainKeys := false, apart := false, narrowed := true }
def FnExactIsStrongUptoSaid : Prop := fnExactIsStrongUptoRow.holds Try.pinned (OpenSpec.upto fnExactIsStrongSpec)

/-- 'laws.FnExactIsTotal', WHERE WHAT IT READS IS OF BULK AT MOST 1048576: true; the input reads as it did. -/
def fnExactIsTotalUptoRow : OpenClaim := { program := "ytonlpihbpbnnmaa", sum := "e053e8fc01e59c7c16f605be37c0786ae1c5e90fba36ddefd6fc9e720859642c", func := "loop.example/g01329/laws.FnExactIsTotal", spec := "fnExactIsTotal", unfollowed := true, recurses := true, plainKeys := false, apart := false, narrowed := true }
def FnExactIsTotalUptoSaid : Prop := fnExactIsTotalUptoRow.holds Try.pinned (OpenSpec.upto fnExactIsTotalSpec)

/-- 'laws.FnExactWeakSet', WHERE WHAT IT READS IS OF BULK AT MOST 1048576: true; the input reads as it did. -/
def fnExactWeakSetUptoRow : OpenClaim := { program := "ytonlpihbpbnnmaa", sum := "e053e8fc01e59c7c16f605be37c0786ae1c5e90fba36ddefd6fc9e720859642c", func := "loop.example/g01329/laws.FnExactWeakSet", spec := "fnExactWeakSet", unfollowed := true, recurses := true, plainKeys := false, apart := false, narrowed := true }
def FnExactWeakSetUptoSaid : Prop := fnExactWeakSetUptoRow.holds Try.pinned (OpenSpec.upto fnExactWeakSetSpec)

/-- 'laws.FnExactResistanceOf', WHERE WHAT IT READS IS OF BULK AT MOST 1048576: true; the input reads as it did. -/
def fnExactResistanceOfUptoRow : OpenClaim := { program := "ytonlpihbpbnnmaa", sum := "e053e8fc01e59c7c16f605be37c0786ae1c5e90fba36ddefd6fc9e720859642c", func := "loop.example/g01329/laws.FnExactResistanceOf", spec := "fnExactResistanceOf", unfollowed := true, recurses := true, plainKeys := false, apart := false, narrowed := true }
def FnExactResistanceOfUptoSaid : Prop := fnExactResistanceOfUptoRow.holds Try.pinned (OpenSpec.upto fnExactResistanceOfSpec)

/-- 'laws.FnExactCircularOf', WHERE WHAT IT READS IS OF BULK AT MOST 1048576: true; the input reads as it did. -/
def fnExactCircularOfUptoRow : OpenClaim := { program := "ytonlpihbpbnnmaa", sum := "e053e8fc01e59c7c16f605be37c0786ae1c5e90fba36ddefd6fc9e720859642c", func := "loop.example/g01329/laws.FnExactCircularOf", spec := "fnExactCircularOf", unfollowed := true, recurses := true, plainKeys := false, apart := false, narrowed := true }
def FnExactCircularOfUptoSaid : Prop := fnExactCircularOfUptoRow.holds Try.pinned (OpenSpec.upto fnExactCircularOfSpec)

/-- 'laws.FnExactStrongNumber', WHERE WHAT IT READS IS OF BULK AT MOST 1048576: true; the input reads as it did. -/
def fnExactStrongNumberUptoRow : OpenClaim := { program := "ytonlpihbpbnnmaa", sum := "e053e8fc01e59c7c16f605be37c0786ae1c5e90fba36ddefd6fc9e720859642c", func := "loop.example/g01329/laws.FnExactStrongNumber", spec := "fnExactStrongNumber", unfollowed := true, recurses := true, plainKeys := false, apart := false, narrowed := true }
def FnExactStrongNumberUptoSaid : Prop := fnExactStrongNumberUptoRow.holds Try.pinned (OpenSpec.upto fnExactStrongNumberSpec)

/-- 'laws.FnExactTotalNumber', WHERE WHAT IT READS IS OF BULK AT MOST 1048576: true; the input reads as it did. -/
def fnExactTotalNumberUptoRow : OpenClaim := { program := "ytonlpihbpbnnmaa", sum := "e053e8fc01e59c7c16f605be37c0786ae1c5e90fba36ddefd6fc9e720859642c", func := "loop.example/g01329/laws.FnExactTotalNumber", spec := "fnExactTotalNumber", unfollowed := true, recurses := true, plainKeys := false, apart := false, narrowed := true }
def FnExactTotalNumberUptoSaid : Prop := fnExactTotalNumberUptoRow.holds Try.pinned (OpenSpec.upto fnExactTotalNumberSpec)

/-- 'laws.FnExactIsOrientedBy', WHERE WHAT IT READS IS OF BULK AT MOST 1048576: true; the input reads as it did. -/
def fnExactIsOrientedByUptoRow : OpenClaim := { program := "ytonlpihbpbnnmaa", sum := "e053e8fc01e59c7c16f605be37c0786ae1c5e90fba36ddefd6fc9e720859642c", func := "loop.example/g01329/laws.FnExactIsOrientedBy", spec := "fnExactIsOrientedBy", unfollowed := true, recurses := true, plainKeys := false, apart := false, narrowed := true }
def FnExactIsOrientedByUptoSaid : Prop := fnExactIsOrientedByUptoRow.holds Try.pinned (OpenSpec.upto fnExactIsOrientedBySpec)

/-- 'laws.FnExactCutEdge', WHERE WHAT IT READS IS OF BULK AT MOST 1048576: true; the input reads as it did. -/
def fnExactCutEdgeUptoRow : OpenClaim := { program := "ytonlpihbpbnnmaa", sum := "e053e8fc01e59c7c16f605be37c0786ae1c5e90fba36ddefd6fc9e720859642c", func := "loop.example/g01329/laws.FnExactCutEdge", spec := "fnExactCutEdge", unfollowed := true, recurses := true, plainKeys := false, apart := false, narrowed := true }
def FnExactCutEdgeUptoSaid : Prop := fnExactCutEdgeUptoRow.holds Try.pinned (OpenSpec.upto fnExactCutEdgeSpec)

/-- 'laws.FnExactStarProduct', WHERE WHAT IT READS IS OF BULK AT MOST 1048576: true; the input reads as it did. -/
def fnExactStarProductUptoRow : OpenClaim := { program := "ytonlpihbpbnnmaa", sum := "e053e8fc01e59c7c16f605be37c0786ae1c5e90fba36ddefd6fc9e720859642c", func := "loop.example/g01329/laws.FnExactStarProduct", spec := "fnExactStarProduct", unfollowed := true, recurses := true, plainKeys := false, apart := false, narrowed := true }
def FnExactStarProductUptoSaid : Prop := fnExactStarProductUptoRow.holds Try.pinned (OpenSpec.upto fnExactStarProductSpec)

end Rows
end Go.Proofs.Ytonlpihbpbnnmaa
