/-
  No cell of these rows narrows 'for every input' (looked for: loops, veiled, ifaces, maps, wideKeys, modest, calm, conditions, laid).
  DERIVED. THE GIVEN ROWS OF THIS SEAT. 3 by the template 'for every input the law returns true; each argument reads behind the call as it read before'; 0 by the template 'total and deterministic' (their statements: YtfdlhdgmbjdhbaaTotals.lean).
  GIVEN WITH THE SEED: the statements are not yours to turn. If you find one false, say at which input.
  Laid BY PROGRAM, IN A SANDBOX (cutbox-rows.mjs): the forced cells as the released guide's own fill.sh prints them over the translation dc425f2f5c04836e… (all of the seat's roots in one cut). By AI agents, Wed Nov 11 2026. No macro, syntax, notation, axiom, sorry.
-/
import Derived.Test.YtfdlhdgmbjdhbaaChecked
import GoSem.Claim
import GoSem.ClaimJoined
import GoSem.ClaimMapViews
import Derived.JoinedTies
import Derived.KernelRfl
namespace Go.Proofs.Ytfdlhdgmbjdhbaa
/- THE CELL 'sum', in the pinned program and in every row, IS THE sha256 OF THE DUMP (.gsa) THAT YtfdlhdgmbjdhbaaProg.lean LOADS. Nothing in Lean hashes anything: it is a label: what it is worth is what the hold of that sum in a sandbox is worth. -/
noncomputable def Try.pinned : Pinned := { name := "ytfdlhdgmbjdhbaa", sum := "dc425f2f5c04836e47cfff4408f354ef08ec96c989e689e7df346f517a97ff3e", checked := Try.checked }
namespace Rows
def none {H : Type} : Left H := { results := [], args := [] }

/-- 'laws.FnExactDotProduct': WHATEVER THE INPUT: true; the input reads as it did. -/
def fnExactDotProductSpec : ChangeSpec := { name := "fnExactDotProduct", fn := fun _ => fun
  | [d1, d2, d3, d4, d5, d6] => { results := [.lit (.bool true)], args := [d1, d2, d3, d4, d5, d6] }
  | _ => none }
def fnExactDotProductRow : OpenClaim := { program := "ytfdlhdgmbjdhbaa", sum := "dc425f2f5c04836e47cfff4408f354ef08ec96c989e689e7df346f517a97ff3e", func := "loop.example/g01329/laws.FnExactDotProduct", spec := "fnExactDotProduct", unfollowed := true, recurses := true, plainKeys := false, apart := false }
def FnExactDotProductSaid : Prop := fnExactDotProductRow.holds Try.pinned (OpenSpec.ofChange fnExactDotProductSpec)

/-- ITS FALSE NEIGHBOUR: 'it returns false'. Refute it at one input. -/
def fnExactDotProductWrong : ChangeSpec := { name := "fnExactDotProduct", fn := fun _ => fun
  | [d1, d2, d3, d4, d5, d6] => { results := [.lit (.bool false)], args := [d1, d2, d3, d4, d5, d6] }
  | _ => none }
def FnExactDotProductWrongFalsely : Prop := fnExactDotProductRow.holds Try.pinned (OpenSpec.ofChange fnExactDotProductWrong)

/-- 'laws.FnExactAllCycles': WHATEVER THE INPUT: true; the input reads as it did. -/
def fnExactAllCyclesSpec : ChangeSpec := { name := "fnExactAllCycles", fn := fun _ => fun
  | [d] => { results := [.lit (.bool true)], args := [d] }
  | _ => none }
def fnExactAllCyclesRow : OpenClaim := { program := "ytfdlhdgmbjdhbaa", sum := "dc425f2f5c04836e47cfff4408f354ef08ec96c989e689e7df346f517a97ff3e", func := "loop.example/g01329/laws.FnExactAllCycles", spec := "fnExactAllCycles", unfollowed := true, recurses := true, plainKeys := false, apart := false }
def FnExactAllCyclesSaid : Prop := fnExactAllCyclesRow.holds Try.pinned (OpenSpec.ofChange fnExactAllCyclesSpec)

/-- ITS FALSE NEIGHBOUR: 'it returns false'. Refute it at one input. -/
def fnExactAllCyclesWrong : ChangeSpec := { name := "fnExactAllCycles", fn := fun _ => fun
  | [d] => { results := [.lit (.bool false)], args := [d] }
  | _ => none }
def FnExactAllCyclesWrongFalsely : Prop := fnExactAllCyclesRow.holds Try.pinned (OpenSpec.ofChange fnExactAllCyclesWrong)

/-- 'laws.FnExactIsOrientedBy': WHATEVER THE INPUT: true; the input reads as it did. -/
def fnExactIsOrientedBySpec : ChangeSpec := { name := "fnExactIsOrientedBy", fn := fun _ => fun
  | [d1, d2, d3] => { results := [.lit (.bool true)], args := [d1, d2, d3] }
  | _ => none }
def fnExactIsOrientedByRow : OpenClaim := { program := "ytfdlhdgmbjdhbaa", sum := "dc425f2f5c04836e47cfff4408f354ef08ec96c989e689e7df346f517a97ff3e", func := "loop.example/g01329/laws.FnExactIsOrientedBy", spec := "fnExactIsOrientedBy", unfollowed := true, recurses := true, plainKeys := false, apart := false }
def FnExactIsOrientedBySaid : Prop := fnExactIsOrientedByRow.holds Try.pinned (OpenSpec.ofChange fnExactIsOrientedBySpec)

/-- ITS FALSE NEIGHBOUR: 'it returns false'. Refute it at one input. -/
def fnExactIsOrientedByWrong : ChangeSpec := { name := "fnExactIsOrientedBy", fn := fun _ => fun
  | [d1, d2, d3] => { results := [.lit (.bool false)], args := [d1, d2, d3] }
  | _ => none }
def FnExactIsOrientedByWrongFalsely : Prop := fnExactIsOrientedByRow.holds Try.pinned (OpenSpec.ofChange fnExactIsOrientedByWrong)

/- THE SECOND FORM. 'bulk': how many values and letters a reading holds, each counted each time it is reached (what is shared counts as often as it is met; a slice's spare places count too). A statement '..UptoSaid' is the law's where the arguments, and the package variables that the reading takes, are together of bulk at most 1048576: NARROWER than '..Said'. Prove '..Said' where nothing that the law and all that it calls make is longer than what came in: it says more and counts as full. Else prove '..UptoSaid'. A law counts once. -/
mutual
def uptoBulk {H : Type} : DataW H → Nat
  | .lit (.string bytes) => bytes.length + 1
  | .lit _ => 1
  | .nil => 1
  | .ptr d => uptoBulk d + 1
  | .slice elems spare => uptoBulkAll elems + uptoBulkAll spare + 1
  | .agg parts => uptoBulkAll parts + 1
  | .iface _ d => uptoBulk d + 1
  | .map entries => uptoBulkEntries entries + 1
  | .held _ => 1
def uptoBulkAll {H : Type} : List (DataW H) → Nat
  | [] => 0
  | d :: r => uptoBulk d + uptoBulkAll r
def uptoBulkEntries {H : Type} : List (Lit × DataW H) → Nat
  | [] => 0
  | x :: r => uptoBulkEntry x + uptoBulkEntries r
def uptoBulkEntry {H : Type} : Lit × DataW H → Nat
  | (.string bytes, d) => bytes.length + uptoBulk d + 1
  | (_, d) => uptoBulk d + 1
 end
def uptoSmall : (H : Type) → List (DataW H) → Bool := fun _ ds => decide (uptoBulkAll ds ≤ 1048576)
def OpenSpec.upto (s : _root_.Go.ChangeSpec) : _root_.Go.OpenSpec := { _root_.Go.OpenSpec.ofChange s with cond := some uptoSmall }

/-- 'laws.FnExactDotProduct', WHERE WHAT IT READS IS OF BULK AT MOST 1048576: true; the input reads as it did. -/
def fnExactDotProductUptoRow : OpenClaim := { program := "ytfdlhdgmbjdhbaa", sum := "dc425f2f5c04836e47cfff4408f354ef08ec96c989e689e7df346f517a97ff3e", func := "loop.example/g01329/laws.FnExactDotProduct", spec := "fnExactDotProduct", unfollowed := true, recurses := true, plainKeys := false, apart := false, narrowed := true }
def FnExactDotProductUptoSaid : Prop := fnExactDotProductUptoRow.holds Try.pinned (OpenSpec.upto fnExactDotProductSpec)

/-- 'laws.FnExactAllCycles', WHERE WHAT IT READS IS OF BULK AT MOST 1048576: true; the input reads as it did. -/
def fnExactAllCyclesUptoRow : OpenClaim := { program := "ytfdlhdgmbjdhbaa", sum := "dc425f2f5c04836e47cfff4408f354ef08ec96c989e689e7df346f517a97ff3e", func := "loop.example/g01329/laws.FnExactAllCycles", spec := "fnExactAllCycles", unfollowed := true, recurses := true, plainKeys := false, apart := false, narrowed := true }
def FnExactAllCyclesUptoSaid : Prop := fnExactAllCyclesUptoRow.holds Try.pinned (OpenSpec.upto fnExactAllCyclesSpec)

/-- 'laws.FnExactIsOrientedBy', WHERE WHAT IT READS IS OF BULK AT MOST 1048576: true; the input reads as it did. -/
def fnExactIsOrientedByUptoRow : OpenClaim := { program := "ytfdlhdgmbjdhbaa", sum := "dc425f2f5c04836e47cfff4408f354ef08ec96c989e689e7df346f517a97ff3e", func := "loop.example/g01329/laws.FnExactIsOrientedBy", spec := "fnExactIsOrientedBy", unfollowed := true, recurses := true, plainKeys := false, apart := false, narrowed := true }
def FnExactIsOrientedByUptoSaid : Prop := fnExactIsOrientedByUptoRow.holds Try.pinned (OpenSpec.upto fnExactIsOrientedBySpec)

end Rows
end Go.Proofs.Ytfdlhdgmbjdhbaa
