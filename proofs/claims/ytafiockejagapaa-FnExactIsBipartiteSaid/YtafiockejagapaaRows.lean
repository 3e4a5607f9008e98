/-
  No cell of these rows narrows 'for every input' (looked for: loops, veiled, ifaces, maps, wideKeys, modest, calm, conditions, laid).
  DERIVED. THE GIVEN ROWS OF THIS SEAT. 12 by the template 'for every input the law returns true; each argument reads behind the call as it read before'; 0 by the template 'total and deterministic' (their statements: YtafiockejagapaaTotals.lean).
  GIVEN WITH THE SEED: the statements are not yours to turn. If you find one false, say at which input.
  Laid BY PROGRAM, IN A SANDBOX (cutbox-rows.mjs): the forced cells as the released guide's own fill.sh prints them over the translation 00de594a563dd8b4… (all of the seat's roots in one cut). By AI agents, Wed Nov 11 2026. No macro, syntax, notation, axiom, sorry.
-/
import Derived.Test.YtafiockejagapaaChecked
import GoSem.Claim
import GoSem.ClaimJoined
import GoSem.ClaimMapViews
import Derived.JoinedTies
import Derived.KernelRfl
namespace Go.Proofs.Ytafiockejagapaa
/- THE CELL 'sum', in the pinned program and in every row, IS THE sha256 OF THE DUMP (.gsa) THAT YtafiockejagapaaProg.lean LOADS. Nothing in Lean hashes anything: it is a label: what it is worth is what the hold of that sum in a sandbox is worth. -/
noncomputable def Try.pinned : Pinned := { name := "ytafiockejagapaa", sum := "00de594a563dd8b4a97e225d519d881ff569843c12e6d415bc59b4003b4ccc04", checked := Try.checked }
namespace Rows
def none {H : Type} : Left H := { results := [], args := [] }

/-- 'laws.FnExactGirthOf': WHATEVER THE INPUT: true; the input reads as it did. -/
def fnExactGirthOfSpec : ChangeSpec := { name := "fnExactGirthOf", fn := fun _ => fun
  | [d] => { results := [.lit (.bool true)], args := [d] }
  | _ => none }
def fnExactGirthOfRow : OpenClaim := { program := "ytafiockejagapaa", sum := "00de594a563dd8b4a97e225d519d881ff569843c12e6d415bc59b4003b4ccc04", func := "loop.example/g01329/laws.FnExactGirthOf", spec := "fnExactGirthOf", unfollowed := true, recurses := true, plainKeys := false, apart := false }
def FnExactGirthOfSaid : Prop := fnExactGirthOfRow.holds Try.pinned (OpenSpec.ofChange fnExactGirthOfSpec)

/-- ITS FALSE NEIGHBOUR: 'it returns false'. Refute it at one input. -/
def fnExactGirthOfWrong : ChangeSpec := { name := "fnExactGirthOf", fn := fun _ => fun
  | [d] => { results := [.lit (.bool false)], args := [d] }
  | _ => none }
def FnExactGirthOfWrongFalsely : Prop := fnExactGirthOfRow.holds Try.pinned (OpenSpec.ofChange fnExactGirthOfWrong)

/-- 'laws.FnExactIsBipartite': WHATEVER THE INPUT: true; the input reads as it did. -/
def fnExactIsBipartiteSpec : ChangeSpec := { name := "fnExactIsBipartite", fn := fun _ => fun
  | [d] => { results := [.lit (.bool true)], args := [d] }
  | _ => none }
def fnExactIsBipartiteRow : OpenClaim := { program := "ytafiockejagapaa", sum := "00de594a563dd8b4a97e225d519d881ff569843c12e6d415bc59b4003b4ccc04", func := "loop.example/g01329/laws.FnExactIsBipartite", spec := "fnExactIsBipartite", unfollowed := true, recurses := true, plainKeys := false, apart := false }
def FnExactIsBipartiteSaid : Prop := fnExactIsBipartiteRow.holds Try.pinned (OpenSpec.ofChange fnExactIsBipartiteSpec)

/-- ITS FALSE NEIGHBOUR: 'it returns false'. Refute it at one input. -/
def fnExactIsBipartiteWrong : ChangeSpec := { name := "fnExactIsBipartite", fn := fun _ => fun
  | [d] => { results := [.lit (.bool false)], args := [d] }
  | _ => none }
def FnExactIsBipartiteWrongFalsely : Prop := fnExactIsBipartiteRow.holds Try.pinned (OpenSpec.ofChange fnExactIsBipartiteWrong)

/-- 'laws.FnExactHasColouring': WHATEVER THE INPUT: true; the input reads as it did. -/
def fnExactHasColouringSpec : ChangeSpec := { name := "fnExactHasColouring", fn := fun _ => fun
  | [d] => { results := [.lit (.bool true)], args := [d] }
  | _ => none }
def fnExactHasColouringRow : OpenClaim := { program := "ytafiockejagapaa", sum := "00de594a563dd8b4a97e225d519d881ff569843c12e6d415bc59b4003b4ccc04", func := "loop.example/g01329/laws.FnExactHasColouring", spec := "fnExactHasColouring", unfollowed := true, recurses := true, plainKeys := false, apart := false }
def FnExactHasColouringSaid : Prop := fnExactHasColouringRow.holds Try.pinned (OpenSpec.ofChange fnExactHasColouringSpec)

/-- ITS FALSE NEIGHBOUR: 'it returns false'. Refute it at one input. -/
def fnExactHasColouringWrong : ChangeSpec := { name := "fnExactHasColouring", fn := fun _ => fun
  | [d] => { results := [.lit (.bool false)], args := [d] }
  | _ => none }
def FnExactHasColouringWrongFalsely : Prop := fnExactHasColouringRow.holds Try.pinned (OpenSpec.ofChange fnExactHasColouringWrong)

/-- 'laws.FnExactChainOf': WHATEVER THE INPUT: true; the input reads as it did. -/
def fnExactChainOfSpec : ChangeSpec := { name := "fnExactChainOf", fn := fun _ => fun
  | [d1, d2, d3, d4] => { results := [.lit (.bool true)], args := [d1, d2, d3, d4] }
  | _ => none }
def fnExactChainOfRow : OpenClaim := { program := "ytafiockejagapaa", sum := "00de594a563dd8b4a97e225d519d881ff569843c12e6d415bc59b4003b4ccc04", func := "loop.example/g01329/laws.FnExactChainOf", spec := "fnExactChainOf", unfollowed := true, recurses := true, plainKeys := false, apart := false }
def FnExactChainOfSaid : Prop := fnExactChainOfRow.holds Try.pinned (OpenSpec.ofChange fnExactChainOfSpec)

/-- ITS FALSE NEIGHBOUR: 'it returns false'. Refute it at one input. -/
def fnExactChainOfWrong : ChangeSpec := { name := "fnExactChainOf", fn := fun _ => fun
  | [d1, d2, d3, d4] => { results := [.lit (.bool false)], args := [d1, d2, d3, d4] }
  | _ => none }
def FnExactChainOfWrongFalsely : Prop := fnExactChainOfRow.holds Try.pinned (OpenSpec.ofChange fnExactChainOfWrong)

/-- 'laws.FnExactExchangeChain': WHATEVER THE INPUT: true; the input reads as it did. -/
def fnExactExchangeChainSpec : ChangeSpec := { name := "fnExactExchangeChain", fn := fun _ => fun
  | [d1, d2, d3, d4] => { results := [.lit (.bool true)], args := [d1, d2, d3, d4] }
  | _ => none }
def fnExactExchangeChainRow : OpenClaim := { program := "ytafiockejagapaa", sum := "00de594a563dd8b4a97e225d519d881ff569843c12e6d415bc59b4003b4ccc04", func := "loop.example/g01329/laws.FnExactExchangeChain", spec := "fnExactExchangeChain", unfollowed := true, recurses := true, plainKeys := false, apart := false }
def FnExactExchangeChainSaid : Prop := fnExactExchangeChainRow.holds Try.pinned (OpenSpec.ofChange fnExactExchangeChainSpec)

/-- ITS FALSE NEIGHBOUR: 'it returns false'. Refute it at one input. -/
def fnExactExchangeChainWrong : ChangeSpec := { name := "fnExactExchangeChain", fn := fun _ => fun
  | [d1, d2, d3, d4] => { results := [.lit (.bool false)], args := [d1, d2, d3, d4] }
  | _ => none }
def FnExactExchangeChainWrongFalsely : Prop := fnExactExchangeChainRow.holds Try.pinned (OpenSpec.ofChange fnExactExchangeChainWrong)

/-- 'laws.FnExactChainNumbers': WHATEVER THE INPUT: true; the input reads as it did. -/
def fnExactChainNumbersSpec : ChangeSpec := { name := "fnExactChainNumbers", fn := fun _ => fun
  | [d1, d2] => { results := [.lit (.bool true)], args := [d1, d2] }
  | _ => none }
def fnExactChainNumbersRow : OpenClaim := { program := "ytafiockejagapaa", sum := "00de594a563dd8b4a97e225d519d881ff569843c12e6d415bc59b4003b4ccc04", func := "loop.example/g01329/laws.FnExactChainNumbers", spec := "fnExactChainNumbers", unfollowed := true, recurses := true, plainKeys := false, apart := false }
def FnExactChainNumbersSaid : Prop := fnExactChainNumbersRow.holds Try.pinned (OpenSpec.ofChange fnExactChainNumbersSpec)

/-- ITS FALSE NEIGHBOUR: 'it returns false'. Refute it at one input. -/
def fnExactChainNumbersWrong : ChangeSpec := { name := "fnExactChainNumbers", fn := fun _ => fun
  | [d1, d2] => { results := [.lit (.bool false)], args := [d1, d2] }
  | _ => none }
def FnExactChainNumbersWrongFalsely : Prop := fnExactChainNumbersRow.holds Try.pinned (OpenSpec.ofChange fnExactChainNumbersWrong)

/-- 'laws.FnExactSidesOf': WHATEVER THE INPUT: true; the input reads as it did. -/
def fnExactSidesOfSpec : ChangeSpec := { name := "fnExactSidesOf", fn := fun _ => fun
  | [d1, d2] => { results := [.lit (.bool true)], args := [d1, d2] }
  | _ => none }
def fnExactSidesOfRow : OpenClaim := { program := "ytafiockejagapaa", sum := "00de594a563dd8b4a97e225d519d881ff569843c12e6d415bc59b4003b4ccc04", func := "loop.example/g01329/laws.FnExactSidesOf", spec := "fnExactSidesOf", unfollowed := true, recurses := true, plainKeys := false, apart := false }
def FnExactSidesOfSaid : Prop := fnExactSidesOfRow.holds Try.pinned (OpenSpec.ofChange fnExactSidesOfSpec)

/-- ITS FALSE NEIGHBOUR: 'it returns false'. Refute it at one input. -/
def fnExactSidesOfWrong : ChangeSpec := { name := "fnExactSidesOf", fn := fun _ => fun
  | [d1, d2] => { results := [.lit (.bool false)], args := [d1, d2] }
  | _ => none }
def FnExactSidesOfWrongFalsely : Prop := fnExactSidesOfRow.holds Try.pinned (OpenSpec.ofChange fnExactSidesOfWrong)

/-- 'laws.FnExactIsMatching': WHATEVER THE INPUT: true; the input reads as it did. -/
def fnExactIsMatchingSpec : ChangeSpec := { name := "fnExactIsMatching", fn := fun _ => fun
  | [d1, d2] => { results := [.lit (.bool true)], args := [d1, d2] }
  | _ => none }
def fnExactIsMatchingRow : OpenClaim := { program := "ytafiockejagapaa", sum := "00de594a563dd8b4a97e225d519d881ff569843c12e6d415bc59b4003b4ccc04", func := "loop.example/g01329/laws.FnExactIsMatching", spec := "fnExactIsMatching", unfollowed := true, recurses := true, plainKeys := false, apart := false }
def FnExactIsMatchingSaid : Prop := fnExactIsMatchingRow.holds Try.pinned (OpenSpec.ofChange fnExactIsMatchingSpec)

/-- ITS FALSE NEIGHBOUR: 'it returns false'. Refute it at one input. -/
def fnExactIsMatchingWrong : ChangeSpec := { name := "fnExactIsMatching", fn := fun _ => fun
  | [d1, d2] => { results := [.lit (.bool false)], args := [d1, d2] }
  | _ => none }
def FnExactIsMatchingWrongFalsely : Prop := fnExactIsMatchingRow.holds Try.pinned (OpenSpec.ofChange fnExactIsMatchingWrong)

/-- 'laws.FnExactMatchingsOf': WHATEVER THE INPUT: true; the input reads as it did. -/
def fnExactMatchingsOfSpec : ChangeSpec := { name := "fnExactMatchingsOf", fn := fun _ => fun
  | [d] => { results := [.lit (.bool true)], args := [d] }
  | _ => none }
def fnExactMatchingsOfRow : OpenClaim := { program := "ytafiockejagapaa", sum := "00de594a563dd8b4a97e225d519d881ff569843c12e6d415bc59b4003b4ccc04", func := "loop.example/g01329/laws.FnExactMatchingsOf", spec := "fnExactMatchingsOf", unfollowed := true, recurses := true, plainKeys := false, apart := false }
def FnExactMatchingsOfSaid : Prop := fnExactMatchingsOfRow.holds Try.pinned (OpenSpec.ofChange fnExactMatchingsOfSpec)

/-- ITS FALSE NEIGHBOUR: 'it returns false'. Refute it at one input. -/
def fnExactMatchingsOfWrong : ChangeSpec := { name := "fnExactMatchingsOf", fn := fun _ => fun
  | [d] => { results := [.lit (.bool false)], args := [d] }
  | _ => none }
def FnExactMatchingsOfWrongFalsely : Prop := fnExactMatchingsOfRow.holds Try.pinned (OpenSpec.ofChange fnExactMatchingsOfWrong)

/-- 'laws.FnExactMatchingsWith': WHATEVER THE INPUT: true; the input reads as it did. -/
def fnExactMatchingsWithSpec : ChangeSpec := { name := "fnExactMatchingsWith", fn := fun _ => fun
  | [d1, d2] => { results := [.lit (.bool true)], args := [d1, d2] }
  | _ => none }
def fnExactMatchingsWithRow : OpenClaim := { program := "ytafiockejagapaa", sum := "00de594a563dd8b4a97e225d519d881ff569843c12e6d415bc59b4003b4ccc04", func := "loop.example/g01329/laws.FnExactMatchingsWith", spec := "fnExactMatchingsWith", unfollowed := true, recurses := true, plainKeys := false, apart := false }
def FnExactMatchingsWithSaid : Prop := fnExactMatchingsWithRow.holds Try.pinned (OpenSpec.ofChange fnExactMatchingsWithSpec)

/-- ITS FALSE NEIGHBOUR: 'it returns false'. Refute it at one input. -/
def fnExactMatchingsWithWrong : ChangeSpec := { name := "fnExactMatchingsWith", fn := fun _ => fun
  | [d1, d2] => { results := [.lit (.bool false)], args := [d1, d2] }
  | _ => none }
def FnExactMatchingsWithWrongFalsely : Prop := fnExactMatchingsWithRow.holds Try.pinned (OpenSpec.ofChange fnExactMatchingsWithWrong)

/-- 'laws.FnExactCyclesLeft': WHATEVER THE INPUT: true; the input reads as it did. -/
def fnExactCyclesLeftSpec : ChangeSpec := { name := "fnExactCyclesLeft", fn := fun _ => fun
  | [d1, d2] => { results := [.lit (.bool true)], args := [d1, d2] }
  | _ => none }
def fnExactCyclesLeftRow : OpenClaim := { program := "ytafiockejagapaa", sum := "00de594a563dd8b4a97e225d519d881ff569843c12e6d415bc59b4003b4ccc04", func := "loop.example/g01329/laws.FnExactCyclesLeft", spec := "fnExactCyclesLeft", unfollowed := true, recurses := true, plainKeys := false, apart := false }
def FnExactCyclesLeftSaid : Prop := fnExactCyclesLeftRow.holds Try.pinned (OpenSpec.ofChange fnExactCyclesLeftSpec)

/-- ITS FALSE NEIGHBOUR: 'it returns false'. Refute it at one input. -/
def fnExactCyclesLeftWrong : ChangeSpec := { name := "fnExactCyclesLeft", fn := fun _ => fun
  | [d1, d2] => { results := [.lit (.bool false)], args := [d1, d2] }
  | _ => none }
def FnExactCyclesLeftWrongFalsely : Prop := fnExactCyclesLeftRow.holds Try.pinned (OpenSpec.ofChange fnExactCyclesLeftWrong)

/-- 'laws.FnExactColouringOf': WHATEVER THE INPUT: true; the input reads as it did. -/
def fnExactColouringOfSpec : ChangeSpec := { name := "fnExactColouringOf", fn := fun _ => fun
  | [d1, d2] => { results := [.lit (.bool true)], args := [d1, d2] }
  | _ => none }
def fnExactColouringOfRow : OpenClaim := { program := "ytafiockejagapaa", sum := "00de594a563dd8b4a97e225d519d881ff569843c12e6d415bc59b4003b4ccc04", func := "loop.example/g01329/laws.FnExactColouringOf", spec := "fnExactColouringOf", unfollowed := true, recurses := true, plainKeys := false, apart := false }
def FnExactColouringOfSaid : Prop := fnExactColouringOfRow.holds Try.pinned (OpenSpec.ofChange fnExactColouringOfSpec)

/-- ITS FALSE NEIGHBOUR: 'it returns false'. Refute it at one input. -/
def fnExactColouringOfWrong : ChangeSpec := { name := "fnExactColouringOf", fn := fun _ => fun
  | [d1, d2] => { results := [.lit (.bool false)], args := [d1, d2] }
  | _ => none }
def FnExactColouringOfWrongFalsely : Prop := fnExactColouringOfRow.holds Try.pinned (OpenSpec.ofChange fnExactColouringOfWrong)

/- THE SECOND FORM. 'bulk': how many values and letters a reading holds, each counted each time it is reached (what is shared counts as often as it is met; a slice's spare places count too). A statement '..UptoSaid' is the law's where the arguments, and the package variables that the reading takes, are together of bulk at most 1048576: NARROWER than '..Said'. Prove '..Said' where nothing that the law and all that it calls make is longer than what came in: it says more and counts as full. Else prove '..UptoSaid'. A law counts once. -/
mutual
def uptoBulk {H : Type} : DataW H → Nat
  | .lit (.string bytes) => bytes.length + 1
  | .lit _ => 1
  | .nil => 1
  | .ptr d => uptoBulk d + 1
  | .slice elems spare => uptoBulkAll elems + uptoBulkAll spare + 1
  | .agg parts => uptoBulkAll parts + 1
  | .iface _ d => uptoBulk d + 1
  | .map entries => uptoBulkEntries entries + 1
  | .held _ => 1
def uptoBulkAll {H : Type} : List (DataW H) → Nat
  | [] => 0
  | d :: r => uptoBulk d + uptoBulkAll r
def uptoBulkEntries {H : Type} : List (Lit × DataW H) → Nat
  | [] => 0
  | x :: r => uptoBulkEntry x + uptoBulkEntries r
def uptoBulkEntry {H : Type} : Lit × DataW H → Nat
  | (.string bytes, d) => bytes.length + uptoBulk d + 1
  | (_, d) => uptoBulk d + 1
 end
def uptoSmall : (H : Type) → List (DataW H) → Bool := fun _ ds => decide (uptoBulkAll ds ≤ 1048576)
def OpenSpec.upto (s : _root_.Go.ChangeSpec) : _root_.Go.OpenSpec := { _root_.Go.OpenSpec.ofChange s with cond := some uptoSmall }

/-- 'laws.FnExactGirthOf', WHERE WHAT IT READS IS OF BULK AT MOST 1048576: true; the input reads as it did. -/
def fnExactGirthOfUptoRow : OpenClaim := { program := "ytafiockejagapaa", sum := "00de594a563dd8b4a97e225d519d881ff569843c12e6d415bc59b4003b4ccc04", func := "loop.example/g01329/laws.FnExactGirthOf", spec := "fnExactGirthOf", unfollowed := true, recurses := true, plainKeys := false, apart := false, narrowed := true }
def FnExactGirthOfUptoSaid : Prop := fnExactGirthOfUptoRow.holds Try.pinned (OpenSpec.upto fnExactGirthOfSpec)

/-- 'laws.FnExactIsBipartite', WHERE WHAT IT READS IS OF BULK AT MOST 1048576: true; the input reads as it did. -/
def fnExactIsBipartiteUptoRow : OpenClaim := { program := "ytafiockejagapaa", sum := "00de594a563dd8b4a97e225d519d881ff569843c12e6d415bc59b4003b4ccc04", func := "loop.example/g01329/laws.FnExactIsBipartite", spec := "fnExactIsBipartite", unfollowed := true, recurses := true, plainKeys := false, apart := false, narrowed := true }
def FnExactIsBipartiteUptoSaid : Prop := fnExactIsBipartiteUptoRow.holds Try.pinned (OpenSpec.upto fnExactIsBipartiteSpec)

/-- 'laws.FnExactHasColouring', WHERE WHAT IT READS IS OF BULK AT MOST 1048576: true; the input reads as it did. -/
def fnExactHasColouringUptoRow : OpenClaim := { program := "ytafiockejagapaa", sum := "00de594a563dd8b4a97e225d519d881ff569843c12e6d415bc59b4003b4ccc04", func := "loop.example/g01329/laws.FnExactHasColouring", spec := "fnExactHasColouring", unfollowed := true, recurses := true, plainKeys := false, apart := false, narrowed := true }
def FnExactHasColouringUptoSaid : Prop := fnExactHasColouringUptoRow.holds Try.pinned (OpenSpec.upto fnExactHasColouringSpec)

/-- 'laws.FnExactChainOf', WHERE WHAT IT READS IS OF BULK AT MOST 1048576: true; the input reads as it did. -/
def fnExactChainOfUptoRow : OpenClaim := { program := "ytafiockejagapaa", sum := "00de594a563dd8b4a97e225d519d881ff569843c12e6d415bc59b4003b4ccc04", func := "loop.example/g01329/laws.FnExactChainOf", spec := "fnExactChainOf", unfollowed := true, recurses := true, plainKeys := false, apart := false, narrowed := true }
def FnExactChainOfUptoSaid : Prop := fnExactChainOfUptoRow.holds Try.pinned (OpenSpec.upto fnExactChainOfSpec)

/-- 'laws.FnExactExchangeChain', WHERE WHAT IT READS IS OF BULK AT MOST 1048576: true; the input reads as it did. -/
def fnExactExchangeChainUptoRow : OpenClaim := { program := "ytafiockejagapaa", sum := "00de594a563dd8b4a97e225d519d881ff569843c12e6d415bc59b4003b4ccc04", func := "loop.example/g01329/laws.FnExactExchangeChain", spec := "fnExactExchangeChain", unfollowed := true, recurses := true, plainKeys := false, apart := false, narrowed := true }
def FnExactExchangeChainUptoSaid : Prop := fnExactExchangeChainUptoRow.holds Try.pinned (OpenSpec.upto fnExactExchangeChainSpec)

/-- 'laws.FnExactChainNumbers', WHERE WHAT IT READS IS OF BULK AT MOST 1048576: true; the input reads as it did. -/
def fnExactChainNumbersUptoRow : OpenClaim := { program := "ytafiockejagapaa", sum := "00de594a563dd8b4a97e225d519d881ff569843c12e6d415bc59b4003b4ccc04", func := "loop.example/g01329/laws.FnExactChainNumbers", spec := "fnExactChainNumbers", unfollowed := true, recurses := true, plainKeys := false, apart := false, narrowed := true }
def FnExactChainNumbersUptoSaid : Prop := fnExactChainNumbersUptoRow.holds Try.pinned (OpenSpec.upto fnExactChainNumbersSpec)

/-- 'laws.FnExactSidesOf', WHERE WHAT IT READS IS OF BULK AT MOST 1048576: true; the input reads as it did. -/
def fnExactSidesOfUptoRow : OpenClaim := { program := "ytafiockejagapaa", sum := "00de594a563dd8b4a97e225d519d881ff569843c12e6d415bc59b4003b4ccc04", func := "loop.example/g01329/laws.FnExactSidesOf", spec := "fnExactSidesOf", unfollowed := true, recurses := true, plainKeys := false, apart := false, narrowed := true }
def FnExactSidesOfUptoSaid : Prop := fnExactSidesOfUptoRow.holds Try.pinned (OpenSpec.upto fnExactSidesOfSpec)

/-- 'laws.FnExactIsMatching', WHERE WHAT IT READS IS OF BULK AT MOST 1048576: true; the input reads as it did. -/
def fnExactIsMatchingUptoRow : OpenClaim := { program := "ytafiockejagapaa", sum := "00de594a563dd8b4a97e225d519d881ff569843c12e6d415bc59b4003b4ccc04", func := "loop.example/g01329/laws.FnExactIsMatching", spec := "fnExactIsMatching", unfollowed := true, recurses := true, plainKeys := false, apart := false, narrowed := true }
def FnExactIsMatchingUptoSaid : Prop := fnExactIsMatchingUptoRow.holds Try.pinned (OpenSpec.upto fnExactIsMatchingSpec)

/-- 'laws.FnExactMatchingsOf', WHERE WHAT IT READS IS OF BULK AT MOST 1048576: true; the input reads as it did. -/
def fnExactMatchingsOfUptoRow : OpenClaim := { program := "ytafiockejagapaa", sum := "00de594a563dd8b4a97e225d519d881ff569843c12e6d415bc59b4003b4ccc04", func := "loop.example/g01329/laws.FnExactMatchingsOf", spec := "fnExactMatchingsOf", unfollowed := true, recurses := true, plainKeys := false, apart := false, narrowed := true }
def FnExactMatchingsOfUptoSaid : Prop := fnExactMatchingsOfUptoRow.holds Try.pinned (OpenSpec.upto fnExactMatchingsOfSpec)

/-- 'laws.FnExactMatchingsWith', WHERE WHAT IT READS IS OF BULK AT MOST 1048576: true; the input reads as it did. -/
def fnExactMatchingsWithUptoRow : OpenClaim := { program := "ytafiockejagapaa", sum := "00de594a563dd8b4a97e225d519d881ff569843c12e6d415bc59b4003b4ccc04", func := "loop.example/g01329/laws.FnExactMatchingsWith", spec := "fnExactMatchingsWith", unfollowed := true, recurses := true, plainKeys := false, apart := false, narrowed := true }
def FnExactMatchingsWithUptoSaid : Prop := fnExactMatchingsWithUptoRow.holds Try.pinned (OpenSpec.upto fnExactMatchingsWithSpec)

/-- 'laws.FnExactCyclesLeft', WHERE WHAT IT READS IS OF BULK AT MOST 1048576: true; the input reads as it did. -/
def fnExactCyclesLeftUptoRow : OpenClaim := { program := "ytafiockejagapaa", sum := "00de594a563dd8b4a97e225d519d881ff569843c12e6d415bc59b4003b4ccc04", func := "loop.example/g01329/laws.FnExactCyclesLeft", spec := "fnExactCyclesLeft", unfollowed := true, recurses := true, plainKeys := false, apart := false, narrowed := true }
def FnExactCyclesLeftUptoSaid : Prop := fnExactCyclesLeftUptoRow.holds Try.pinned (OpenSpec.upto fnExactCyclesLeftSpec)

/-- 'laws.FnExactColouringOf', WHERE WHAT IT READS IS OF BULK AT MOST 1048576: true; the input reads as it did. -/
def fnExactColouringOfUptoRow : OpenClaim := { program := "ytafiockejagapaa", sum := "00de594a563dd8b4a97e225d519d881ff569843c12e6d415bc59b4003b4ccc04", func := "loop.example/g01329/laws.FnExactColouringOf", spec := "fnExactColouringOf", unfollowed := true, recurses := true, plainKeys := false, apart := false, narrowed := true }
def FnExactColouringOfUptoSaid : Prop := fnExactColouringOfUptoRow.holds Try.pinned (OpenSpec.upto fnExactColouringOfSpec)

end Rows
end Go.Proofs.Ytafiockejagapaa
