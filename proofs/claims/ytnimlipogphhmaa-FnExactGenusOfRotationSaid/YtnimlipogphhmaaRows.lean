/-
  No cell of these rows narrows 'for every input' (looked for: loops, veiled, ifaces, maps, wideKeys, modest, calm, conditions, laid).
  DERIVED. THE GIVEN ROWS OF THIS SEAT. 4 by the template 'for every input the law returns true; each argument reads behind the call as it read before'; 0 by the template 'total and deterministic' (their statements: YtnimlipogphhmaaTotals.lean).
  GIVEN WITH THE SEED: the statements are not yours to turn. If you find one false, say at which input.
  Laid BY PROGRAM, IN A SANDBOX (cutbox-rows.mjs): the forced cells as the released guide's own fill.sh prints them over the translation 305dd3d87d8912cb… (all of the seat's roots in one cut). By AI agents, Wed Nov 11 2026. No macro, syntax, notation, axiom, sorry.
-/
import Derived.Test.YtnimlipogphhmaaChecked
import GoSem.Claim
import GoSem.ClaimJoined
import GoSem.ClaimMapViews
import Derived.JoinedTies
import Derived.KernelRfl
namespace Go.Proofs.Ytnimlipogphhmaa
/- THE CELL 'sum', in the pinned program and in every row, IS THE sha256 OF THE DUMP (.gsa) THAT YtnimlipogphhmaaProg.lean LOADS. Nothing in Lean hashes anything: it is a label: what it is worth is what the hold of that sum in a sandbox is worth. -/
noncomputable def Try.pinned : Pinned := { name := "ytnimlipogphhmaa", sum := "305dd3d87d8912cb42c5d156cd532af82dacd1c75179d67a26715a4c96b55ec1", checked := Try.checked }
namespace Rows
def none {H : Type} : Left H := { results := [], args := [] }

/-- 'laws.FnExactGirthOf': WHATEVER THE INPUT: true; the input reads as it did. -/
def fnExactGirthOfSpec : ChangeSpec := { name := "fnExactGirthOf", fn := fun _ => fun
  | [d] => { results := [.lit (.bool true)], args := [d] }
  | _ => none }
def fnExactGirthOfRow : OpenClaim := { program := "ytnimlipogphhmaa", sum := "305dd3d87d8912cb42c5d156cd532af82dacd1c75179d67a26715a4c96b55ec1", func := "loop.example/g01329/laws.FnExactGirthOf", spec := "fnExactGirthOf", unfollowed := true, recurses := true, plainKeys := false, apart := false }
def FnExactGirthOfSaid : Prop := fnExactGirthOfRow.holds Try.pinned (OpenSpec.ofChange fnExactGirthOfSpec)

/-- ITS FALSE NEIGHBOUR: 'it returns false'. Refute it at one input. -/
def fnExactGirthOfWrong : ChangeSpec := { name := "fnExactGirthOf", fn := fun _ => fun
  | [d] => { results := [.lit (.bool false)], args := [d] }
  | _ => none }
def FnExactGirthOfWrongFalsely : Prop := fnExactGirthOfRow.holds Try.pinned (OpenSpec.ofChange fnExactGirthOfWrong)

/-- 'laws.FnExactIsOrientedBy': WHATEVER THE INPUT: true; the input reads as it did. -/
def fnExactIsOrientedBySpec : ChangeSpec := { name := "fnExactIsOrientedBy", fn := fun _ => fun
  | [d1, d2, d3] => { results := [.lit (.bool true)], args := [d1, d2, d3] }
  | _ => none }
def fnExactIsOrientedByRow : OpenClaim := { program := "ytnimlipogphhmaa", sum := "305dd3d87d8912cb42c5d156cd532af82dacd1c75179d67a26715a4c96b55ec1", func := "loop.example/g01329/laws.FnExactIsOrientedBy", spec := "fnExactIsOrientedBy", unfollowed := true, recurses := true, plainKeys := false, apart := false }
def FnExactIsOrientedBySaid : Prop := fnExactIsOrientedByRow.holds Try.pinned (OpenSpec.ofChange fnExactIsOrientedBySpec)

/-- ITS FALSE NEIGHBOUR: 'it returns false'. Refute it at one input. -/
def fnExactIsOrientedByWrong : ChangeSpec := { name := "fnExactIsOrientedBy", fn := fun _ => fun
  | [d1, d2, d3] => { results := [.lit (.bool false)], args := [d1, d2, d3] }
  | _ => none }
def FnExactIsOrientedByWrongFalsely : Prop := fnExactIsOrientedByRow.holds Try.pinned (OpenSpec.ofChange fnExactIsOrientedByWrong)

/-- 'laws.FnExactFacesOf': WHATEVER THE INPUT: true; the input reads as it did. -/
def fnExactFacesOfSpec : ChangeSpec := { name := "fnExactFacesOf", fn := fun _ => fun
  | [d1, d2] => { results := [.lit (.bool true)], args := [d1, d2] }
  | _ => none }
def fnExactFacesOfRow : OpenClaim := { program := "ytnimlipogphhmaa", sum := "305dd3d87d8912cb42c5d156cd532af82dacd1c75179d67a26715a4c96b55ec1", func := "loop.example/g01329/laws.FnExactFacesOf", spec := "fnExactFacesOf", unfollowed := true, recurses := true, plainKeys := false, apart := false }
def FnExactFacesOfSaid : Prop := fnExactFacesOfRow.holds Try.pinned (OpenSpec.ofChange fnExactFacesOfSpec)

/-- ITS FALSE NEIGHBOUR: 'it returns false'. Refute it at one input. -/
def fnExactFacesOfWrong : ChangeSpec := { name := "fnExactFacesOf", fn := fun _ => fun
  | [d1, d2] => { results := [.lit (.bool false)], args := [d1, d2] }
  | _ => none }
def FnExactFacesOfWrongFalsely : Prop := fnExactFacesOfRow.holds Try.pinned (OpenSpec.ofChange fnExactFacesOfWrong)

/-- 'laws.FnExactGenusOfRotation': WHATEVER THE INPUT: true; the input reads as it did. -/
def fnExactGenusOfRotationSpec : ChangeSpec := { name := "fnExactGenusOfRotation", fn := fun _ => fun
  | [d1, d2] => { results := [.lit (.bool true)], args := [d1, d2] }
  | _ => none }
def fnExactGenusOfRotationRow : OpenClaim := { program := "ytnimlipogphhmaa", sum := "305dd3d87d8912cb42c5d156cd532af82dacd1c75179d67a26715a4c96b55ec1", func := "loop.example/g01329/laws.FnExactGenusOfRotation", spec := "fnExactGenusOfRotation", unfollowed := true, recurses := true, plainKeys := false, apart := false }
def FnExactGenusOfRotationSaid : Prop := fnExactGenusOfRotationRow.holds Try.pinned (OpenSpec.ofChange fnExactGenusOfRotationSpec)

/-- ITS FALSE NEIGHBOUR: 'it returns false'. Refute it at one input. -/
def fnExactGenusOfRotationWrong : ChangeSpec := { name := "fnExactGenusOfRotation", fn := fun _ => fun
  | [d1, d2] => { results := [.lit (.bool false)], args := [d1, d2] }
  | _ => none }
def FnExactGenusOfRotationWrongFalsely : Prop := fnExactGenusOfRotationRow.holds Try.pinned (OpenSpec.ofChange fnExactGenusOfRotationWrong)

/- THE SECOND FORM. 'bulk': how many values and letters a reading holds, each counted each time it is reached (what is shared counts as often as it is met; a slice's spare places count too). A statement '..UptoSaid' is the law's where the arguments, and the package variables that the reading takes, are together of bulk at most 1048576: NARROWER than '..Said'. Prove '..Said' where nothing that the law and all that it calls make is longer than what came in: it says more and counts as full. Else prove '..UptoSaid'. A law counts once. -/
mutual
def uptoBulk {H : Type} : DataW H → Nat
  | .lit (.string bytes) => bytes.length + 1
  | .lit _ => 1
  | .nil => 1
  | .ptr d => uptoBulk d + 1
  | .slice elems spare => uptoBulkAll elems + uptoBulkAll spare + 1
  | .agg parts => uptoBulkAll parts + 1
  | .iface _ d => uptoBulk d + 1
  | .map entries => uptoBulkEntries entries + 1
  | .held _ => 1
def uptoBulkAll {H : Type} : List (DataW H) → Nat
  | [] => 0
  | d :: r => uptoBulk d + uptoBulkAll r
def uptoBulkEntries {H : Type} : List (Lit × DataW H) → Nat
  | [] => 0
  | x :: r => uptoBulkEntry x + uptoBulkEntries r
def uptoBulkEntry {H : Type} : Lit × DataW H → Nat
  | (.string bytes, d) => bytes.length + uptoBulk d + 1
  | (_, d) => uptoBulk d + 1
 end
def uptoSmall : (H : Type) → List (DataW H) → Bool := fun _ ds => decide (uptoBulkAll ds ≤ 1048576)
def OpenSpec.upto (s : _root_.Go.ChangeSpec) : _root_.Go.OpenSpec := { _root_.Go.OpenSpec.ofChange s with cond := some uptoSmall }

/-- 'laws.FnExactGirthOf', WHERE WHAT IT READS IS OF BULK AT MOST 1048576: true; the input reads as it did. -/
def fnExactGirthOfUptoRow : OpenClaim := { program := "ytnimlipogphhmaa", sum := "305dd3d87d8912cb42c5d156cd532af82dacd1c75179d67a26715a4c96b55ec1", func := "loop.example/g01329/laws.FnExactGirthOf", spec := "fnExactGirthOf", unfollowed := true, recurses := true, plainKeys := false, apart := false, narrowed := true }
def FnExactGirthOfUptoSaid : Prop := fnExactGirthOfUptoRow.holds Try.pinned (OpenSpec.upto fnExactGirthOfSpec)

/-- 'laws.FnExactIsOrientedBy', WHERE WHAT IT READS IS OF BULK AT MOST 1048576: true; the input reads as it did. -/
def fnExactIsOrientedByUptoRow : OpenClaim := { program := "ytnimlipogphhmaa", sum := "305dd3d87d8912cb42c5d156cd532af82dacd1c75179d67a26715a4c96b55ec1", func := "loop.example/g01329/laws.FnExactIsOrientedBy", spec := "fnExactIsOrientedBy", unfollowed := true, recurses := true, plainKeys := false, apart := false, narrowed := true }
def FnExactIsOrientedByUptoSaid : Prop := fnExactIsOrientedByUptoRow.holds Try.pinned (OpenSpec.upto fnExactIsOrientedBySpec)

/-- 'laws.FnExactFacesOf', WHERE WHAT IT READS IS OF BULK AT MOST 1048576: true; the input reads as it did. -/
def fnExactFacesOfUptoRow : OpenClaim := { program := "ytnimlipogphhmaa", sum := "305dd3d87d8912cb42c5d156cd532af82dacd1c75179d67a26715a4c96b55ec1", func := "loop.example/g01329/laws.FnExactFacesOf", spec := "fnExactFacesOf", unfollowed := true, recurses := true, plainKeys := false, apart := false, narrowed := true }
def FnExactFacesOfUptoSaid : Prop := fnExactFacesOfUptoRow.holds Try.pinned (OpenSpec.upto fnExactFacesOfSpec)

/-- 'laws.FnExactGenusOfRotation', WHERE WHAT IT READS IS OF BULK AT MOST 1048576: true; the input reads as it did. -/
def fnExactGenusOfRotationUptoRow : OpenClaim := { program := "ytnimlipogphhmaa", sum := "305dd3d87d8912cb42c5d156cd532af82dacd1c75179d67a26715a4c96b55ec1", func := "loop.example/g01329/laws.FnExactGenusOfRotation", spec := "fnExactGenusOfRotation", unfollowed := true, recurses := true, plainKeys := false, apart := false, narrowed := true }
def FnExactGenusOfRotationUptoSaid : Prop := fnExactGenusOfRotationUptoRow.holds Try.pinned (OpenSpec.upto fnExactGenusOfRotationSpec)

end Rows
end Go.Proofs.Ytnimlipogphhmaa
