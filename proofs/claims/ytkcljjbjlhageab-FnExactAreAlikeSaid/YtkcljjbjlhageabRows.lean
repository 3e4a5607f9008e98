/-
  No cell of these rows narrows 'for every input' (looked for: loops, veiled, ifaces, maps, wideKeys, modest, calm, conditions, laid).
  DERIVED. THE GIVEN ROWS OF THIS SEAT. 11 by the template 'for every input the law returns true; each argument reads behind the call as it read before'; 0 by the template 'total and deterministic' (their statements: YtkcljjbjlhageabTotals.lean).
  GIVEN WITH THE SEED: the statements are not yours to turn. If you find one false, say at which input.
  Laid BY PROGRAM, IN A SANDBOX (cutbox-rows.mjs): the forced cells as the released guide's own fill.sh prints them over the translation bd68c27620bc5baf… (all of the seat's roots in one cut). By AI agents, Wed Nov 11 2026. No macro, syntax, notation, axiom, sorry.
-/
import Derived.Test.YtkcljjbjlhageabChecked
import GoSem.Claim
import GoSem.ClaimJoined
import GoSem.ClaimMapViews
import Derived.JoinedTies
import Derived.KernelRfl
namespace Go.Proofs.Ytkcljjbjlhageab
/- THE CELL 'sum', in the pinned program and in every row, IS THE sha256 OF THE DUMP (.gsa) THAT YtkcljjbjlhageabProg.lean LOADS. Nothing in Lean hashes anything: it is a label: what it is worth is what the hold of that sum in a sandbox is worth. -/
noncomputable def Try.pinned : Pinned := { name := "ytkcljjbjlhageab", sum := "bd68c27620bc5bafddeb4964c633821b32efaea04c139415144eb5cf4c90e1f1", checked := Try.checked }
namespace Rows
def none {H : Type} : Left H := { results := [], args := [] }

/-- 'laws.FnExactIsColouring': WHATEVER THE INPUT: true; the input reads as it did. -/
def fnExactIsColouringSpec : ChangeSpec := { name := "fnExactIsColouring", fn := fun _ => fun
  | [d1, d2] => { results := [.lit (.bool true)], args := [d1, d2] }
  | _ => none }
def fnExactIsColouringRow : OpenClaim := { program := "ytkcljjbjlhageab", sum := "bd68c27620bc5bafddeb4964c633821b32efaea04c139415144eb5cf4c90e1f1", func := "loop.example/g01329/laws.FnExactIsColouring", spec := "fnExactIsColouring", unfollowed := true, recurses := true, apart := false }
def FnExactIsColouringSaid : Prop := fnExactIsColouringRow.holds Try.pinned (OpenSpec.ofChange fnExactIsColouringSpec)

/-- ITS FALSE NEIGHBOUR: 'it returns false'. Refute it at one input. -/
def fnExactIsColouringWrong : ChangeSpec := { name := "fnExactIsColouring", fn := fun _ => fun
  | [d1, d2] => { results := [.lit (.bool false)], args := [d1, d2] }
  | _ => none }
def FnExactIsColouringWrongFalsely : Prop := fnExactIsColouringRow.holds Try.pinned (OpenSpec.ofChange fnExactIsColouringWrong)

/-- 'laws.FnExactCountColourings': WHATEVER THE INPUT: true; the input reads as it did. -/
def fnExactCountColouringsSpec : ChangeSpec := { name := "fnExactCountColourings", fn := fun _ => fun
  | [d] => { results := [.lit (.bool true)], args := [d] }
  | _ => none }
def fnExactCountColouringsRow : OpenClaim := { program := "ytkcljjbjlhageab", sum := "bd68c27620bc5bafddeb4964c633821b32efaea04c139415144eb5cf4c90e1f1", func := "loop.example/g01329/laws.FnExactCountColourings", spec := "fnExactCountColourings", unfollowed := true, recurses := true, apart := false }
def FnExactCountColouringsSaid : Prop := fnExactCountColouringsRow.holds Try.pinned (OpenSpec.ofChange fnExactCountColouringsSpec)

/-- ITS FALSE NEIGHBOUR: 'it returns false'. Refute it at one input. -/
def fnExactCountColouringsWrong : ChangeSpec := { name := "fnExactCountColourings", fn := fun _ => fun
  | [d] => { results := [.lit (.bool false)], args := [d] }
  | _ => none }
def FnExactCountColouringsWrongFalsely : Prop := fnExactCountColouringsRow.holds Try.pinned (OpenSpec.ofChange fnExactCountColouringsWrong)

/-- 'laws.FnExactHasColouring': WHATEVER THE INPUT: true; the input reads as it did. -/
def fnExactHasColouringSpec : ChangeSpec := { name := "fnExactHasColouring", fn := fun _ => fun
  | [d] => { results := [.lit (.bool true)], args := [d] }
  | _ => none }
def fnExactHasColouringRow : OpenClaim := { program := "ytkcljjbjlhageab", sum := "bd68c27620bc5bafddeb4964c633821b32efaea04c139415144eb5cf4c90e1f1", func := "loop.example/g01329/laws.FnExactHasColouring", spec := "fnExactHasColouring", unfollowed := true, recurses := true, apart := false }
def FnExactHasColouringSaid : Prop := fnExactHasColouringRow.holds Try.pinned (OpenSpec.ofChange fnExactHasColouringSpec)

/-- ITS FALSE NEIGHBOUR: 'it returns false'. Refute it at one input. -/
def fnExactHasColouringWrong : ChangeSpec := { name := "fnExactHasColouring", fn := fun _ => fun
  | [d] => { results := [.lit (.bool false)], args := [d] }
  | _ => none }
def FnExactHasColouringWrongFalsely : Prop := fnExactHasColouringRow.holds Try.pinned (OpenSpec.ofChange fnExactHasColouringWrong)

/-- 'laws.FnExactFirstColouring': WHATEVER THE INPUT: true; the input reads as it did. -/
def fnExactFirstColouringSpec : ChangeSpec := { name := "fnExactFirstColouring", fn := fun _ => fun
  | [d] => { results := [.lit (.bool true)], args := [d] }
  | _ => none }
def fnExactFirstColouringRow : OpenClaim := { program := "ytkcljjbjlhageab", sum := "bd68c27620bc5bafddeb4964c633821b32efaea04c139415144eb5cf4c90e1f1", func := "loop.example/g01329/laws.FnExactFirstColouring", spec := "fnExactFirstColouring", unfollowed := true, recurses := true, apart := false }
def FnExactFirstColouringSaid : Prop := fnExactFirstColouringRow.holds Try.pinned (OpenSpec.ofChange fnExactFirstColouringSpec)

/-- ITS FALSE NEIGHBOUR: 'it returns false'. Refute it at one input. -/
def fnExactFirstColouringWrong : ChangeSpec := { name := "fnExactFirstColouring", fn := fun _ => fun
  | [d] => { results := [.lit (.bool false)], args := [d] }
  | _ => none }
def FnExactFirstColouringWrongFalsely : Prop := fnExactFirstColouringRow.holds Try.pinned (OpenSpec.ofChange fnExactFirstColouringWrong)

/-- 'laws.FnExactNormalColourings': WHATEVER THE INPUT: true; the input reads as it did. -/
def fnExactNormalColouringsSpec : ChangeSpec := { name := "fnExactNormalColourings", fn := fun _ => fun
  | [d] => { results := [.lit (.bool true)], args := [d] }
  | _ => none }
def fnExactNormalColouringsRow : OpenClaim := { program := "ytkcljjbjlhageab", sum := "bd68c27620bc5bafddeb4964c633821b32efaea04c139415144eb5cf4c90e1f1", func := "loop.example/g01329/laws.FnExactNormalColourings", spec := "fnExactNormalColourings", unfollowed := true, recurses := true, apart := false }
def FnExactNormalColouringsSaid : Prop := fnExactNormalColouringsRow.holds Try.pinned (OpenSpec.ofChange fnExactNormalColouringsSpec)

/-- ITS FALSE NEIGHBOUR: 'it returns false'. Refute it at one input. -/
def fnExactNormalColouringsWrong : ChangeSpec := { name := "fnExactNormalColourings", fn := fun _ => fun
  | [d] => { results := [.lit (.bool false)], args := [d] }
  | _ => none }
def FnExactNormalColouringsWrongFalsely : Prop := fnExactNormalColouringsRow.holds Try.pinned (OpenSpec.ofChange fnExactNormalColouringsWrong)

/-- 'laws.FnExactAreAlike': WHATEVER THE INPUT: true; the input reads as it did. -/
def fnExactAreAlikeSpec : ChangeSpec := { name := "fnExactAreAlike", fn := fun _ => fun
  | [d1, d2, d3] => { results := [.lit (.bool true)], args := [d1, d2, d3] }
  | _ => none }
def fnExactAreAlikeRow : OpenClaim := { program := "ytkcljjbjlhageab", sum := "bd68c27620bc5bafddeb4964c633821b32efaea04c139415144eb5cf4c90e1f1", func := "loop.example/g01329/laws.FnExactAreAlike", spec := "fnExactAreAlike", unfollowed := true, recurses := true, apart := false }
def FnExactAreAlikeSaid : Prop := fnExactAreAlikeRow.holds Try.pinned (OpenSpec.ofChange fnExactAreAlikeSpec)

/-- ITS FALSE NEIGHBOUR: 'it returns false'. Refute it at one input. -/
def fnExactAreAlikeWrong : ChangeSpec := { name := "fnExactAreAlike", fn := fun _ => fun
  | [d1, d2, d3] => { results := [.lit (.bool false)], args := [d1, d2, d3] }
  | _ => none }
def FnExactAreAlikeWrongFalsely : Prop := fnExactAreAlikeRow.holds Try.pinned (OpenSpec.ofChange fnExactAreAlikeWrong)

/-- 'laws.FnExactChainOf': WHATEVER THE INPUT: true; the input reads as it did. -/
def fnExactChainOfSpec : ChangeSpec := { name := "fnExactChainOf", fn := fun _ => fun
  | [d1, d2, d3, d4] => { results := [.lit (.bool true)], args := [d1, d2, d3, d4] }
  | _ => none }
def fnExactChainOfRow : OpenClaim := { program := "ytkcljjbjlhageab", sum := "bd68c27620bc5bafddeb4964c633821b32efaea04c139415144eb5cf4c90e1f1", func := "loop.example/g01329/laws.FnExactChainOf", spec := "fnExactChainOf", unfollowed := true, recurses := true, apart := false }
def FnExactChainOfSaid : Prop := fnExactChainOfRow.holds Try.pinned (OpenSpec.ofChange fnExactChainOfSpec)

/-- ITS FALSE NEIGHBOUR: 'it returns false'. Refute it at one input. -/
def fnExactChainOfWrong : ChangeSpec := { name := "fnExactChainOf", fn := fun _ => fun
  | [d1, d2, d3, d4] => { results := [.lit (.bool false)], args := [d1, d2, d3, d4] }
  | _ => none }
def FnExactChainOfWrongFalsely : Prop := fnExactChainOfRow.holds Try.pinned (OpenSpec.ofChange fnExactChainOfWrong)

/-- 'laws.FnExactExchangeChain': WHATEVER THE INPUT: true; the input reads as it did. -/
def fnExactExchangeChainSpec : ChangeSpec := { name := "fnExactExchangeChain", fn := fun _ => fun
  | [d1, d2, d3, d4] => { results := [.lit (.bool true)], args := [d1, d2, d3, d4] }
  | _ => none }
def fnExactExchangeChainRow : OpenClaim := { program := "ytkcljjbjlhageab", sum := "bd68c27620bc5bafddeb4964c633821b32efaea04c139415144eb5cf4c90e1f1", func := "loop.example/g01329/laws.FnExactExchangeChain", spec := "fnExactExchangeChain", unfollowed := true, recurses := true, apart := false }
def FnExactExchangeChainSaid : Prop := fnExactExchangeChainRow.holds Try.pinned (OpenSpec.ofChange fnExactExchangeChainSpec)

/-- ITS FALSE NEIGHBOUR: 'it returns false'. Refute it at one input. -/
def fnExactExchangeChainWrong : ChangeSpec := { name := "fnExactExchangeChain", fn := fun _ => fun
  | [d1, d2, d3, d4] => { results := [.lit (.bool false)], args := [d1, d2, d3, d4] }
  | _ => none }
def FnExactExchangeChainWrongFalsely : Prop := fnExactExchangeChainRow.holds Try.pinned (OpenSpec.ofChange fnExactExchangeChainWrong)

/-- 'laws.FnExactChainNumbers': WHATEVER THE INPUT: true; the input reads as it did. -/
def fnExactChainNumbersSpec : ChangeSpec := { name := "fnExactChainNumbers", fn := fun _ => fun
  | [d1, d2] => { results := [.lit (.bool true)], args := [d1, d2] }
  | _ => none }
def fnExactChainNumbersRow : OpenClaim := { program := "ytkcljjbjlhageab", sum := "bd68c27620bc5bafddeb4964c633821b32efaea04c139415144eb5cf4c90e1f1", func := "loop.example/g01329/laws.FnExactChainNumbers", spec := "fnExactChainNumbers", unfollowed := true, recurses := true, apart := false }
def FnExactChainNumbersSaid : Prop := fnExactChainNumbersRow.holds Try.pinned (OpenSpec.ofChange fnExactChainNumbersSpec)

/-- ITS FALSE NEIGHBOUR: 'it returns false'. Refute it at one input. -/
def fnExactChainNumbersWrong : ChangeSpec := { name := "fnExactChainNumbers", fn := fun _ => fun
  | [d1, d2] => { results := [.lit (.bool false)], args := [d1, d2] }
  | _ => none }
def FnExactChainNumbersWrongFalsely : Prop := fnExactChainNumbersRow.holds Try.pinned (OpenSpec.ofChange fnExactChainNumbersWrong)

/-- 'laws.FnExactCountReached': WHATEVER THE INPUT: true; the input reads as it did. -/
def fnExactCountReachedSpec : ChangeSpec := { name := "fnExactCountReached", fn := fun _ => fun
  | [d1, d2] => { results := [.lit (.bool true)], args := [d1, d2] }
  | _ => none }
def fnExactCountReachedRow : OpenClaim := { program := "ytkcljjbjlhageab", sum := "bd68c27620bc5bafddeb4964c633821b32efaea04c139415144eb5cf4c90e1f1", func := "loop.example/g01329/laws.FnExactCountReached", spec := "fnExactCountReached", unfollowed := true, recurses := true, apart := false }
def FnExactCountReachedSaid : Prop := fnExactCountReachedRow.holds Try.pinned (OpenSpec.ofChange fnExactCountReachedSpec)

/-- ITS FALSE NEIGHBOUR: 'it returns false'. Refute it at one input. -/
def fnExactCountReachedWrong : ChangeSpec := { name := "fnExactCountReached", fn := fun _ => fun
  | [d1, d2] => { results := [.lit (.bool false)], args := [d1, d2] }
  | _ => none }
def FnExactCountReachedWrongFalsely : Prop := fnExactCountReachedRow.holds Try.pinned (OpenSpec.ofChange fnExactCountReachedWrong)

/-- 'laws.FnExactCutNumbers': WHATEVER THE INPUT: true; the input reads as it did. -/
def fnExactCutNumbersSpec : ChangeSpec := { name := "fnExactCutNumbers", fn := fun _ => fun
  | [d1, d2, d3] => { results := [.lit (.bool true)], args := [d1, d2, d3] }
  | _ => none }
def fnExactCutNumbersRow : OpenClaim := { program := "ytkcljjbjlhageab", sum := "bd68c27620bc5bafddeb4964c633821b32efaea04c139415144eb5cf4c90e1f1", func := "loop.example/g01329/laws.FnExactCutNumbers", spec := "fnExactCutNumbers", unfollowed := true, recurses := true, apart := false }
def FnExactCutNumbersSaid : Prop := fnExactCutNumbersRow.holds Try.pinned (OpenSpec.ofChange fnExactCutNumbersSpec)

/-- ITS FALSE NEIGHBOUR: 'it returns false'. Refute it at one input. -/
def fnExactCutNumbersWrong : ChangeSpec := { name := "fnExactCutNumbers", fn := fun _ => fun
  | [d1, d2, d3] => { results := [.lit (.bool false)], args := [d1, d2, d3] }
  | _ => none }
def FnExactCutNumbersWrongFalsely : Prop := fnExactCutNumbersRow.holds Try.pinned (OpenSpec.ofChange fnExactCutNumbersWrong)

/- THE SECOND FORM. 'bulk': how many values and letters a reading holds, each counted each time it is reached (what is shared counts as often as it is met; a slice's spare places count too). A statement '..UptoSaid' is the law's where the arguments, and the package variables that the reading takes, are together of bulk at most 1048576: NARROWER than '..Said'. Prove '..Said' where nothing that the law and all that it calls make is longer than what came in: it says more and counts as full. Else prove '..UptoSaid'. A law counts once. -/
mutual
def uptoBulk {H : Type} : DataW H → Nat
  | .lit (.string bytes) => bytes.length + 1
  | .lit _ => 1
  | .nil => 1
  | .ptr d => uptoBulk d + 1
  | .slice elems spare => uptoBulkAll elems + uptoBulkAll spare + 1
  | .agg parts => uptoBulkAll parts + 1
  | .iface _ d => uptoBulk d + 1
  | .map entries => uptoBulkEntries entries + 1
  | .held _ => 1
def uptoBulkAll {H : Type} : List (DataW H) → Nat
  | [] => 0
  | d :: r => uptoBulk d + uptoBulkAll r
def uptoBulkEntries {H : Type} : List (Lit × DataW H) → Nat
  | [] => 0
  | x :: r => uptoBulkEntry x + uptoBulkEntries r
def uptoBulkEntry {H : Type} : Lit × DataW H → Nat
  | (.string bytes, d) => bytes.length + uptoBulk d + 1
  | (_, d) => uptoBulk d + 1
 end
def uptoSmall : (H : Type) → List (DataW H) → Bool := fun _ ds => decide (uptoBulkAll ds ≤ 1048576)
def OpenSpec.upto (s : _root_.Go.ChangeSpec) : _root_.Go.OpenSpec := { _root_.Go.OpenSpec.ofChange s with cond := some uptoSmall }

/-- 'laws.FnExactIsColouring', WHERE WHAT IT READS IS OF BULK AT MOST 1048576: true; the input reads as it did. -/
def fnExactIsColouringUptoRow : OpenClaim := { program := "ytkcljjbjlhageab", sum := "bd68c27620bc5bafddeb4964c633821b32efaea04c139415144eb5cf4c90e1f1", func := "loop.example/g01329/laws.FnExactIsColouring", spec := "fnExactIsColouring", unfollowed := true, recurses := true, apart := false, narrowed := true }
def FnExactIsColouringUptoSaid : Prop := fnExactIsColouringUptoRow.holds Try.pinned (OpenSpec.upto fnExactIsColouringSpec)

/-- 'laws.FnExactCountColourings', WHERE WHAT IT READS IS OF BULK AT MOST 1048576: true; the input reads as it did. -/
def fnExactCountColouringsUptoRow : OpenClaim := { program := "ytkcljjbjlhageab", sum := "bd68c27620bc5bafddeb4964c633821b32efaea04c139415144eb5cf4c90e1f1", func := "loop.example/g01329/laws.FnExactCountColourings", spec := "fnExactCountColourings", unfollowed := true, recurses := true, apart := false, narrowed := true }
def FnExactCountColouringsUptoSaid : Prop := fnExactCountColouringsUptoRow.holds Try.pinned (OpenSpec.upto fnExactCountColouringsSpec)

/-- 'laws.FnExactHasColouring', WHERE WHAT IT READS IS OF BULK AT MOST 1048576: true; the input reads as it did. -/
def fnExactHasColouringUptoRow : OpenClaim := { program := "ytkcljjbjlhageab", sum := "bd68c27620bc5bafddeb4964c633821b32efaea04c139415144eb5cf4c90e1f1", func := "loop.example/g01329/laws.FnExactHasColouring", spec := "fnExactHasColouring", unfollowed := true, recurses := true, apart := false, narrowed := true }
def FnExactHasColouringUptoSaid : Prop := fnExactHasColouringUptoRow.holds Try.pinned (OpenSpec.upto fnExactHasColouringSpec)

/-- 'laws.FnExactFirstColouring', WHERE WHAT IT READS IS OF BULK AT MOST 1048576: true; the input reads as it did. -/
def fnExactFirstColouringUptoRow : OpenClaim := { program := "ytkcljjbjlhageab", sum := "bd68c27620bc5bafddeb4964c633821b32efaea04c139415144eb5cf4c90e1f1", func := "loop.example/g01329/laws.FnExactFirstColouring", spec := "fnExactFirstColouring", unfollowed := true, recurses := true, apart := false, narrowed := true }
def FnExactFirstColouringUptoSaid : Prop := fnExactFirstColouringUptoRow.holds Try.pinned (OpenSpec.upto fnExactFirstColouringSpec)

/-- 'laws.FnExactNormalColourings', WHERE WHAT IT READS IS OF BULK AT MOST 1048576: true; the input reads as it did. -/
def fnExactNormalColouringsUptoRow : OpenClaim := { program := "ytkcljjbjlhageab", sum := "bd68c27620bc5bafddeb4964c633821b32efaea04c139415144eb5cf4c90e1f1", func := "loop.example/g01329/laws.FnExactNormalColourings", spec := "fnExactNormalColourings", unfollowed := true, recurses := true, apart := false, narrowed := true }
def FnExactNormalColouringsUptoSaid : Prop := fnExactNormalColouringsUptoRow.holds Try.pinned (OpenSpec.upto fnExactNormalColouringsSpec)

/-- 'laws.FnExactAreAlike', WHERE WHAT IT READS IS OF BULK AT MOST 1048576: true; the input reads as it did. -/
def fnExactAreAlikeUptoRow : OpenClaim := { program := "ytkcljjbjlhageab", sum := "bd68c27620bc5bafddeb4964c633821b32efaea04c139415144eb5cf4c90e1f1", func := "loop.example/g01329/laws.FnExactAreAlike", spec := "fnExactAreAlike", unfollowed := true, recurses := true, apart := false, narrowed := true }
def FnExactAreAlikeUptoSaid : Prop := fnExactAreAlikeUptoRow.holds Try.pinned (OpenSpec.upto fnExactAreAlikeSpec)

/-- 'laws.FnExactChainOf', WHERE WHAT IT READS IS OF BULK AT MOST 1048576: true; the input reads as it did. -/
def fnExactChainOfUptoRow : OpenClaim := { program := "ytkcljjbjlhageab", sum := "bd68c27620bc5bafddeb4964c633821b32efaea04c139415144eb5cf4c90e1f1", func := "loop.example/g01329/laws.FnExactChainOf", spec := "fnExactChainOf", unfollowed := true, recurses := true, apart := false, narrowed := true }
def FnExactChainOfUptoSaid : Prop := fnExactChainOfUptoRow.holds Try.pinned (OpenSpec.upto fnExactChainOfSpec)

/-- 'laws.FnExactExchangeChain', WHERE WHAT IT READS IS OF BULK AT MOST 1048576: true; the input reads as it did. -/
def fnExactExchangeChainUptoRow : OpenClaim := { program := "ytkcljjbjlhageab", sum := "bd68c27620bc5bafddeb4964c633821b32efaea04c139415144eb5cf4c90e1f1", func := "loop.example/g01329/laws.FnExactExchangeChain", spec := "fnExactExchangeChain", unfollowed := true, recurses := true, apart := false, narrowed := true }
def FnExactExchangeChainUptoSaid : Prop := fnExactExchangeChainUptoRow.holds Try.pinned (OpenSpec.upto fnExactExchangeChainSpec)

/-- 'laws.FnExactChainNumbers', WHERE WHAT IT READS IS OF BULK AT MOST 1048576: true; the input reads as it did. -/
def fnExactChainNumbersUptoRow : OpenClaim := { program := "ytkcljjbjlhageab", sum := "bd68c27620bc5bafddeb4964c633821b32efaea04c139415144eb5cf4c90e1f1", func := "loop.example/g01329/laws.FnExactChainNumbers", spec := "fnExactChainNumbers", unfollowed := true, recurses := true, apart := false, narrowed := true }
def FnExactChainNumbersUptoSaid : Prop := fnExactChainNumbersUptoRow.holds Try.pinned (OpenSpec.upto fnExactChainNumbersSpec)

/-- 'laws.FnExactCountReached', WHERE WHAT IT READS IS OF BULK AT MOST 1048576: true; the input reads as it did. -/
def fnExactCountReachedUptoRow : OpenClaim := { program := "ytkcljjbjlhageab", sum := "bd68c27620bc5bafddeb4964c633821b32efaea04c139415144eb5cf4c90e1f1", func := "loop.example/g01329/laws.FnExactCountReached", spec := "fnExactCountReached", unfollowed := true, recurses := true, apart := false, narrowed := true }
def FnExactCountReachedUptoSaid : Prop := fnExactCountReachedUptoRow.holds Try.pinned (OpenSpec.upto fnExactCountReachedSpec)

/-- 'laws.FnExactCutNumbers', WHERE WHAT IT READS IS OF BULK AT MOST 1048576: true; the input reads as it did. -/
def fnExactCutNumbersUptoRow : OpenClaim := { program := "ytkcljjbjlhageab", sum := "bd68c27620bc5bafddeb4964c633821b32efaea04c139415144eb5cf4c90e1f1", func := "loop.example/g01329/laws.FnExactCutNumbers", spec := "fnExactCutNumbers", unfollowed := true, recurses := true, apart := false, narrowed := true }
def FnExactCutNumbersUptoSaid : Prop := fnExactCutNumbersUptoRow.holds Try.pinned (OpenSpec.upto fnExactCutNumbersSpec)

end Rows
end Go.Proofs.Ytkcljjbjlhageab
