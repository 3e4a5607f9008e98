/-
  No cell of these rows narrows 'for every input' (looked for: loops, veiled, ifaces, maps, wideKeys, modest, calm, conditions, laid).
  DERIVED. THE GIVEN ROWS OF THIS SEAT. 9 by the template 'for every input the law returns true; each argument reads behind the call as it read before'; 0 by the template 'total and deterministic' (their statements: YtbimllpfbgjajaaTotals.lean).
  GIVEN WITH THE SEED: the statements are not yours to turn. If you find one false, say at which input.
  Laid BY PROGRAM, IN A SANDBOX (cutbox-rows.mjs): the forced cells as the released guide's own fill.sh prints them over the translation 9fa4577e52261652… (all of the seat's roots in one cut). By AI agents, Wed Nov 11 2026. No macro, syntax, notation, axiom, sorry.
-/
import Derived.Test.YtbimllpfbgjajaaChecked
import GoSem.Claim
import GoSem.ClaimJoined
import GoSem.ClaimMapViews
import Derived.JoinedTies
import Derived.KernelRfl
namespace Go.Proofs.Ytbimllpfbgjajaa
/- THE CELL 'sum', in the pinned program and in every row, IS THE sha256 OF THE DUMP (.gsa) THAT YtbimllpfbgjajaaProg.lean LOADS. Nothing in Lean hashes anything: it is a label: what it is worth is what the hold of that sum in a sandbox is worth. -/
noncomputable def Try.pinned : Pinned := { name := "ytbimllpfbgjajaa", sum := "9fa4577e5226165262a79740c532c475466e826f1f2ad47681df289914c6d8a5", checked := Try.checked }
namespace Rows
def none {H : Type} : Left H := { results := [], args := [] }

/-- 'laws.FnExactCountMatchings': WHATEVER THE INPUT: true; the input reads as it did. -/
def fnExactCountMatchingsSpec : ChangeSpec := { name := "fnExactCountMatchings", fn := fun _ => fun
  | [d] => { results := [.lit (.bool true)], args := [d] }
  | _ => none }
def fnExactCountMatchingsRow : OpenClaim := { program := "ytbimllpfbgjajaa", sum := "9fa4577e5226165262a79740c532c475466e826f1f2ad47681df289914c6d8a5", func := "loop.example/g01329/laws.FnExactCountMatchings", spec := "fnExactCountMatchings", inPlace := ["(*sync.WaitGroup).Add", "internal/race.ReleaseMerge", "internal/race.Disable", "internal/race.Enable", "internal/synctest.IsInBubble", "internal/synctest.Associate[sync.WaitGroup]", "sync.fatal", "sync/atomic.OrUint64", "sync/atomic.AddUint64", "internal/race.Read", "sync/atomic.LoadUint64", "sync/atomic.StoreUint64", "internal/synctest.Disassociate[sync.WaitGroup]", "sync.runtime_Semrelease", "(*sync.WaitGroup).Done", "(*sync.WaitGroup).Wait", "internal/race.Acquire", "internal/synctest.IsAssociated[sync.WaitGroup]", "sync/atomic.CompareAndSwapUint64", "internal/race.Write", "sync.runtime_SemacquireWaitGroup"], unfollowed := true, recurses := true, leaving := true, apart := false }
def FnExactCountMatchingsSaid : Prop := fnExactCountMatchingsRow.holds Try.pinned (OpenSpec.ofChange fnExactCountMatchingsSpec)

/-- ITS FALSE NEIGHBOUR: 'it returns false'. Refute it at one input. -/
def fnExactCountMatchingsWrong : ChangeSpec := { name := "fnExactCountMatchings", fn := fun _ => fun
  | [d] => { results := [.lit (.bool false)], args := [d] }
  | _ => none }
def FnExactCountMatchingsWrongFalsely : Prop := fnExactCountMatchingsRow.holds Try.pinned (OpenSpec.ofChange fnExactCountMatchingsWrong)

/-- 'laws.FnExactFreeEdges': WHATEVER THE INPUT: true; the input reads as it did. -/
def fnExactFreeEdgesSpec : ChangeSpec := { name := "fnExactFreeEdges", fn := fun _ => fun
  | [d] => { results := [.lit (.bool true)], args := [d] }
  | _ => none }
def fnExactFreeEdgesRow : OpenClaim := { program := "ytbimllpfbgjajaa", sum := "9fa4577e5226165262a79740c532c475466e826f1f2ad47681df289914c6d8a5", func := "loop.example/g01329/laws.FnExactFreeEdges", spec := "fnExactFreeEdges", inPlace := ["(*sync.WaitGroup).Add", "internal/race.ReleaseMerge", "internal/race.Disable", "internal/race.Enable", "internal/synctest.IsInBubble", "internal/synctest.Associate[sync.WaitGroup]", "sync.fatal", "sync/atomic.OrUint64", "sync/atomic.AddUint64", "internal/race.Read", "sync/atomic.LoadUint64", "sync/atomic.StoreUint64", "internal/synctest.Disassociate[sync.WaitGroup]", "sync.runtime_Semrelease", "(*sync.WaitGroup).Done", "(*sync.WaitGroup).Wait", "internal/race.Acquire", "internal/synctest.IsAssociated[sync.WaitGroup]", "sync/atomic.CompareAndSwapUint64", "internal/race.Write", "sync.runtime_SemacquireWaitGroup"], unfollowed := true, recurses := true, leaving := true, apart := false }
def FnExactFreeEdgesSaid : Prop := fnExactFreeEdgesRow.holds Try.pinned (OpenSpec.ofChange fnExactFreeEdgesSpec)

/-- ITS FALSE NEIGHBOUR: 'it returns false'. Refute it at one input. -/
def fnExactFreeEdgesWrong : ChangeSpec := { name := "fnExactFreeEdges", fn := fun _ => fun
  | [d] => { results := [.lit (.bool false)], args := [d] }
  | _ => none }
def FnExactFreeEdgesWrongFalsely : Prop := fnExactFreeEdgesRow.holds Try.pinned (OpenSpec.ofChange fnExactFreeEdgesWrong)

/-- 'laws.FnExactStarProduct': WHATEVER THE INPUT: true; the input reads as it did. -/
def fnExactStarProductSpec : ChangeSpec := { name := "fnExactStarProduct", fn := fun _ => fun
  | [d1, d2, d3, d4] => { results := [.lit (.bool true)], args := [d1, d2, d3, d4] }
  | _ => none }
def fnExactStarProductRow : OpenClaim := { program := "ytbimllpfbgjajaa", sum := "9fa4577e5226165262a79740c532c475466e826f1f2ad47681df289914c6d8a5", func := "loop.example/g01329/laws.FnExactStarProduct", spec := "fnExactStarProduct", unfollowed := true, recurses := true, leaving := true, apart := false }
def FnExactStarProductSaid : Prop := fnExactStarProductRow.holds Try.pinned (OpenSpec.ofChange fnExactStarProductSpec)

/-- ITS FALSE NEIGHBOUR: 'it returns false'. Refute it at one input. -/
def fnExactStarProductWrong : ChangeSpec := { name := "fnExactStarProduct", fn := fun _ => fun
  | [d1, d2, d3, d4] => { results := [.lit (.bool false)], args := [d1, d2, d3, d4] }
  | _ => none }
def FnExactStarProductWrongFalsely : Prop := fnExactStarProductRow.holds Try.pinned (OpenSpec.ofChange fnExactStarProductWrong)

/-- 'laws.FnExactCountTrees': WHATEVER THE INPUT: true; the input reads as it did. -/
def fnExactCountTreesSpec : ChangeSpec := { name := "fnExactCountTrees", fn := fun _ => fun
  | [d] => { results := [.lit (.bool true)], args := [d] }
  | _ => none }
def fnExactCountTreesRow : OpenClaim := { program := "ytbimllpfbgjajaa", sum := "9fa4577e5226165262a79740c532c475466e826f1f2ad47681df289914c6d8a5", func := "loop.example/g01329/laws.FnExactCountTrees", spec := "fnExactCountTrees", unfollowed := true, recurses := true, leaving := true, apart := false }
def FnExactCountTreesSaid : Prop := fnExactCountTreesRow.holds Try.pinned (OpenSpec.ofChange fnExactCountTreesSpec)

/-- ITS FALSE NEIGHBOUR: 'it returns false'. Refute it at one input. -/
def fnExactCountTreesWrong : ChangeSpec := { name := "fnExactCountTrees", fn := fun _ => fun
  | [d] => { results := [.lit (.bool false)], args := [d] }
  | _ => none }
def FnExactCountTreesWrongFalsely : Prop := fnExactCountTreesRow.holds Try.pinned (OpenSpec.ofChange fnExactCountTreesWrong)

/-- 'laws.FnExactLeadsTo': WHATEVER THE INPUT: true; the input reads as it did. -/
def fnExactLeadsToSpec : ChangeSpec := { name := "fnExactLeadsTo", fn := fun _ => fun
  | [d1, d2, d3] => { results := [.lit (.bool true)], args := [d1, d2, d3] }
  | _ => none }
def fnExactLeadsToRow : OpenClaim := { program := "ytbimllpfbgjajaa", sum := "9fa4577e5226165262a79740c532c475466e826f1f2ad47681df289914c6d8a5", func := "loop.example/g01329/laws.FnExactLeadsTo", spec := "fnExactLeadsTo", unfollowed := true, recurses := true, leaving := true, apart := false }
def FnExactLeadsToSaid : Prop := fnExactLeadsToRow.holds Try.pinned (OpenSpec.ofChange fnExactLeadsToSpec)

/-- ITS FALSE NEIGHBOUR: 'it returns false'. Refute it at one input. -/
def fnExactLeadsToWrong : ChangeSpec := { name := "fnExactLeadsTo", fn := fun _ => fun
  | [d1, d2, d3] => { results := [.lit (.bool false)], args := [d1, d2, d3] }
  | _ => none }
def FnExactLeadsToWrongFalsely : Prop := fnExactLeadsToRow.holds Try.pinned (OpenSpec.ofChange fnExactLeadsToWrong)

/-- 'laws.FnExactAreIsomorphic': WHATEVER THE INPUT: true; the input reads as it did. -/
def fnExactAreIsomorphicSpec : ChangeSpec := { name := "fnExactAreIsomorphic", fn := fun _ => fun
  | [d1, d2] => { results := [.lit (.bool true)], args := [d1, d2] }
  | _ => none }
def fnExactAreIsomorphicRow : OpenClaim := { program := "ytbimllpfbgjajaa", sum := "9fa4577e5226165262a79740c532c475466e826f1f2ad47681df289914c6d8a5", func := "loop.example/g01329/laws.FnExactAreIsomorphic", spec := "fnExactAreIsomorphic", unfollowed := true, recurses := true, leaving := true, apart := false }
def FnExactAreIsomorphicSaid : Prop := fnExactAreIsomorphicRow.holds Try.pinned (OpenSpec.ofChange fnExactAreIsomorphicSpec)

/-- ITS FALSE NEIGHBOUR: 'it returns false'. Refute it at one input. -/
def fnExactAreIsomorphicWrong : ChangeSpec := { name := "fnExactAreIsomorphic", fn := fun _ => fun
  | [d1, d2] => { results := [.lit (.bool false)], args := [d1, d2] }
  | _ => none }
def FnExactAreIsomorphicWrongFalsely : Prop := fnExactAreIsomorphicRow.holds Try.pinned (OpenSpec.ofChange fnExactAreIsomorphicWrong)

/-- 'laws.FnExactCountAutomorphisms': WHATEVER THE INPUT: true; the input reads as it did. -/
def fnExactCountAutomorphismsSpec : ChangeSpec := { name := "fnExactCountAutomorphisms", fn := fun _ => fun
  | [d] => { results := [.lit (.bool true)], args := [d] }
  | _ => none }
def fnExactCountAutomorphismsRow : OpenClaim := { program := "ytbimllpfbgjajaa", sum := "9fa4577e5226165262a79740c532c475466e826f1f2ad47681df289914c6d8a5", func := "loop.example/g01329/laws.FnExactCountAutomorphisms", spec := "fnExactCountAutomorphisms", unfollowed := true, recurses := true, leaving := true, apart := false }
def FnExactCountAutomorphismsSaid : Prop := fnExactCountAutomorphismsRow.holds Try.pinned (OpenSpec.ofChange fnExactCountAutomorphismsSpec)

/-- ITS FALSE NEIGHBOUR: 'it returns false'. Refute it at one input. -/
def fnExactCountAutomorphismsWrong : ChangeSpec := { name := "fnExactCountAutomorphisms", fn := fun _ => fun
  | [d] => { results := [.lit (.bool false)], args := [d] }
  | _ => none }
def FnExactCountAutomorphismsWrongFalsely : Prop := fnExactCountAutomorphismsRow.holds Try.pinned (OpenSpec.ofChange fnExactCountAutomorphismsWrong)

/-- 'laws.FnExactStabiliserNumber': WHATEVER THE INPUT: true; the input reads as it did. -/
def fnExactStabiliserNumberSpec : ChangeSpec := { name := "fnExactStabiliserNumber", fn := fun _ => fun
  | [d1, d2] => { results := [.lit (.bool true)], args := [d1, d2] }
  | _ => none }
def fnExactStabiliserNumberRow : OpenClaim := { program := "ytbimllpfbgjajaa", sum := "9fa4577e5226165262a79740c532c475466e826f1f2ad47681df289914c6d8a5", func := "loop.example/g01329/laws.FnExactStabiliserNumber", spec := "fnExactStabiliserNumber", unfollowed := true, recurses := true, leaving := true, apart := false }
def FnExactStabiliserNumberSaid : Prop := fnExactStabiliserNumberRow.holds Try.pinned (OpenSpec.ofChange fnExactStabiliserNumberSpec)

/-- ITS FALSE NEIGHBOUR: 'it returns false'. Refute it at one input. -/
def fnExactStabiliserNumberWrong : ChangeSpec := { name := "fnExactStabiliserNumber", fn := fun _ => fun
  | [d1, d2] => { results := [.lit (.bool false)], args := [d1, d2] }
  | _ => none }
def FnExactStabiliserNumberWrongFalsely : Prop := fnExactStabiliserNumberRow.holds Try.pinned (OpenSpec.ofChange fnExactStabiliserNumberWrong)

/-- 'laws.FnExactCycleTypeOf': WHATEVER THE INPUT: true; the input reads as it did. -/
def fnExactCycleTypeOfSpec : ChangeSpec := { name := "fnExactCycleTypeOf", fn := fun _ => fun
  | [d] => { results := [.lit (.bool true)], args := [d] }
  | _ => none }
def fnExactCycleTypeOfRow : OpenClaim := { program := "ytbimllpfbgjajaa", sum := "9fa4577e5226165262a79740c532c475466e826f1f2ad47681df289914c6d8a5", func := "loop.example/g01329/laws.FnExactCycleTypeOf", spec := "fnExactCycleTypeOf", recurses := true, apart := false }
def FnExactCycleTypeOfSaid : Prop := fnExactCycleTypeOfRow.holds Try.pinned (OpenSpec.ofChange fnExactCycleTypeOfSpec)

/-- ITS FALSE NEIGHBOUR: 'it returns false'. Refute it at one input. -/
def fnExactCycleTypeOfWrong : ChangeSpec := { name := "fnExactCycleTypeOf", fn := fun _ => fun
  | [d] => { results := [.lit (.bool false)], args := [d] }
  | _ => none }
def FnExactCycleTypeOfWrongFalsely : Prop := fnExactCycleTypeOfRow.holds Try.pinned (OpenSpec.ofChange fnExactCycleTypeOfWrong)

/- THE SECOND FORM. 'bulk': how many values and letters a reading holds, each counted each time it is reached (what is shared counts as often as it is met; a slice's spare places count too). A statement '..UptoSaid' is the law's where the arguments, and the package variables that the reading takes, are together of bulk at most 1048576: NARROWER than '..Said'. Prove '..Said' where nothing that the law and all that it calls make is longer than what came in: it says more and counts as full. Else prove '..UptoSaid'. A law counts once. -/
mutual
def uptoBulk {H : Type} : DataW H → Nat
  | .lit (.string bytes) => bytes.length + 1
  | .lit _ => 1
  | .nil => 1
  | .ptr d => uptoBulk d + 1
  | .slice elems spare => uptoBulkAll elems + uptoBulkAll spare + 1
  | .agg parts => uptoBulkAll parts + 1
  | .iface _ d => uptoBulk d + 1
  | .map entries => uptoBulkEntries entries + 1
  | .held _ => 1
def uptoBulkAll {H : Type} : List (DataW H) → Nat
  | [] => 0
  | d :: r => uptoBulk d + uptoBulkAll r
def uptoBulkEntries {H : Type} : List (Lit × DataW H) → Nat
  | [] => 0
  | x :: r => uptoBulkEntry x + uptoBulkEntries r
def uptoBulkEntry {H : Type} : Lit × DataW H → Nat
  | (.string bytes, d) => bytes.length + uptoBulk d + 1
  | (_, d) => uptoBulk d + 1
 end
def uptoSmall : (H : Type) → List (DataW H) → Bool := fun _ ds => decide (uptoBulkAll ds ≤ 1048576)
def OpenSpec.upto (s : _root_.Go.ChangeSpec) : _root_.Go.OpenSpec := { _root_.Go.OpenSpec.ofChange s with cond := some uptoSmall }

/-- 'laws.FnExactCountMatchings', WHERE WHAT IT READS IS OF BULK AT MOST 1048576: true; the input reads as it did. -/
def fnExactCountMatchingsUptoRow : OpenClaim := { program := "ytbimllpfbgjajaa", sum := "9fa4577e5226165262a79740c532c475466e826f1f2ad47681df289914c6d8a5", func := "loop.example/g01329/laws.FnExactCountMatchings", spec := "fnExactCountMatchings", inPlace := ["(*sync.WaitGroup).Add", "internal/race.ReleaseMerge", "internal/race.Disable", "internal/race.Enable", "internal/synctest.IsInBubble", "internal/synctest.Associate[sync.WaitGroup]", "sync.fatal", "sync/atomic.OrUint64", "sync/atomic.AddUint64", "internal/race.Read", "sync/atomic.LoadUint64", "sync/atomic.StoreUint64", "internal/synctest.Disassociate[sync.WaitGroup]", "sync.runtime_Semrelease", "(*sync.WaitGroup).Done", "(*sync.WaitGroup).Wait", "internal/race.Acquire", "internal/synctest.IsAssociated[sync.WaitGroup]", "sync/atomic.CompareAndSwapUint64", "internal/race.Write", "sync.runtime_SemacquireWaitGroup"], unfollowed := true, recurses := true, leaving := true, apart := false, narrowed := true }
def FnExactCountMatchingsUptoSaid : Prop := fnExactCountMatchingsUptoRow.holds Try.pinned (OpenSpec.upto fnExactCountMatchingsSpec)

/-- 'laws.FnExactFreeEdges', WHERE WHAT IT READS IS OF BULK AT MOST 1048576: true; the input reads as it did. -/
def fnExactFreeEdgesUptoRow : OpenClaim := { program := "ytbimllpfbgjajaa", sum := "9fa4577e5226165262a79740c532c475466e826f1f2ad47681df289914c6d8a5", func := "loop.example/g01329/laws.FnExactFreeEdges", spec := "fnExactFreeEdges", inPlace := ["(*sync.WaitGroup).Add", "internal/race.ReleaseMerge", "internal/race.Disable", "internal/race.Enable", "internal/synctest.IsInBubble", "internal/synctest.Associate[sync.WaitGroup]", "sync.fatal", "sync/atomic.OrUint64", "sync/atomic.AddUint64", "internal/race.Read", "sync/atomic.LoadUint64", "sync/atomic.StoreUint64", "internal/synctest.Disassociate[sync.WaitGroup]", "sync.runtime_Semrelease", "(*sync.WaitGroup).Done", "(*sync.WaitGroup).Wait", "internal/race.Acquire", "internal/synctest.IsAssociated[sync.WaitGroup]", "sync/atomic.CompareAndSwapUint64", "internal/race.Write", "sync.runtime_SemacquireWaitGroup"], unfollowed := true, recurses := true, leaving := true, apart := false, narrowed := true }
def FnExactFreeEdgesUptoSaid : Prop := fnExactFreeEdgesUptoRow.holds Try.pinned (OpenSpec.upto fnExactFreeEdgesSpec)

/-- 'laws.FnExactStarProduct', WHERE WHAT IT READS IS OF BULK AT MOST 1048576: true; the input reads as it did. -/
def fnExactStarProductUptoRow : OpenClaim := { program := "ytbimllpfbgjajaa", sum := "9fa4577e5226165262a79740c532c475466e826f1f2ad47681df289914c6d8a5", func := "loop.example/g01329/laws.FnExactStarProduct", spec := "fnExactStarProduct", unfollowed := true, recurses := true, leaving := true, apart := false, narrowed := true }
def FnExactStarProductUptoSaid : Prop := fnExactStarProductUptoRow.holds Try.pinned (OpenSpec.upto fnExactStarProductSpec)

/-- 'laws.FnExactCountTrees', WHERE WHAT IT READS IS OF BULK AT MOST 1048576: true; the input reads as it did. -/
def fnExactCountTreesUptoRow : OpenClaim := { program := "ytbimllpfbgjajaa", sum := "9fa4577e5226165262a79740c532c475466e826f1f2ad47681df289914c6d8a5", func := "loop.example/g01329/laws.FnExactCountTrees", spec := "fnExactCountTrees", unfollowed := true, recurses := true, leaving := true, apart := false, narrowed := true }
def FnExactCountTreesUptoSaid : Prop := fnExactCountTreesUptoRow.holds Try.pinned (OpenSpec.upto fnExactCountTreesSpec)

/-- 'laws.FnExactLeadsTo', WHERE WHAT IT READS IS OF BULK AT MOST 1048576: true; the input reads as it did. -/
def fnExactLeadsToUptoRow : OpenClaim := { program := "ytbimllpfbgjajaa", sum := "9fa4577e5226165262a79740c532c475466e826f1f2ad47681df289914c6d8a5", func := "loop.example/g01329/laws.FnExactLeadsTo", spec := "fnExactLeadsTo", unfollowed := true, recurses := true, leaving := true, apart := false, narrowed := true }
def FnExactLeadsToUptoSaid : Prop := fnExactLeadsToUptoRow.holds Try.pinned (OpenSpec.upto fnExactLeadsToSpec)

/-- 'laws.FnExactAreIsomorphic', WHERE WHAT IT READS IS OF BULK AT MOST 1048576: true; the input reads as it did. -/
def fnExactAreIsomorphicUptoRow : OpenClaim := { program := "ytbimllpfbgjajaa", sum := "9fa4577e5226165262a79740c532c475466e826f1f2ad47681df289914c6d8a5", func := "loop.example/g01329/laws.FnExactAreIsomorphic", spec := "fnExactAreIsomorphic", unfollowed := true, recurses := true, leaving := true, apart := false, narrowed := true }
def FnExactAreIsomorphicUptoSaid : Prop := fnExactAreIsomorphicUptoRow.holds Try.pinned (OpenSpec.upto fnExactAreIsomorphicSpec)

/-- 'laws.FnExactCountAutomorphisms', WHERE WHAT IT READS IS OF BULK AT MOST 1048576: true; the input reads as it did. -/
def fnExactCountAutomorphismsUptoRow : OpenClaim := { program := "ytbimllpfbgjajaa", sum := "9fa4577e5226165262a79740c532c475466e826f1f2ad47681df289914c6d8a5", func := "loop.example/g01329/laws.FnExactCountAutomorphisms", spec := "fnExactCountAutomorphisms", unfollowed := true, recurses := true, leaving := true, apart := false, narrowed := true }
def FnExactCountAutomorphismsUptoSaid : Prop := fnExactCountAutomorphismsUptoRow.holds Try.pinned (OpenSpec.upto fnExactCountAutomorphismsSpec)

/-- 'laws.FnExactStabiliserNumber', WHERE WHAT IT READS IS OF BULK AT MOST 1048576: true; the input reads as it did. -/
def fnExactStabiliserNumberUptoRow : OpenClaim := { program := "ytbimllpfbgjajaa", sum := "9fa4577e5226165262a79740c532c475466e826f1f2ad47681df289914c6d8a5", func := "loop.example/g01329/laws.FnExactStabiliserNumber", spec := "fnExactStabiliserNumber", unfollowed := true, recurses := true, leaving := true, apart := false, narrowed := true }
def FnExactStabiliserNumberUptoSaid : Prop := fnExactStabiliserNumberUptoRow.holds Try.pinned (OpenSpec.upto fnExactStabiliserNumberSpec)

/-- 'laws.FnExactCycleTypeOf', WHERE WHAT IT READS IS OF BULK AT MOST 1048576: true; the input reads as it did. -/
def fnExactCycleTypeOfUptoRow : OpenClaim := { program := "ytbimllpfbgjajaa", sum := "9fa4577e5226165262a79740c532c475466e826f1f2ad47681df289914c6d8a5", func := "loop.example/g01329/laws.FnExactCycleTypeOf", spec := "fnExactCycleTypeOf", recurses := true, apart := false, narrowed := true }
def FnExactCycleTypeOfUptoSaid : Prop := fnExactCycleTypeOfUptoRow.holds Try.pinned (OpenSpec.upto fnExactCycleTypeOfSpec)

end Rows
end Go.Proofs.Ytbimllpfbgjajaa
