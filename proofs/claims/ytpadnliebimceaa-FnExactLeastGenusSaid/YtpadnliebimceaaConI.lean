/- IsConnected in the program. -/
import Derived.Test.YtpadnliebimceaaPartsI
import Derived.Test.YtpadnliebimceaaPartsS
import Derived.Test.YtpadnliebimceaaImplG
namespace Go.Proofs.Ytpadnliebimceaa
open Go.RowKit

theorem isG_block {N : Nat} {es : List (Int × Int)} {w : World} {b off : Nat} (g : IsG N es) (hr : ReadsE w b off es) : b < w.heap.size := reads_lt hr (by have := isG_len g; have := g.1.1.2.2.2; have := g.1.1.1; omega)
theorem isG_diff {N : Nat} {es : List (Int × Int)} (g : IsG N es) : ∀ i, i < es.length → eA es i ≠ eB es i := fun _ hi => isG_ne g hi
theorem isG_twenty {N : Nat} {es : List (Int × Int)} (g : IsG N es) : 1 ≤ N ∧ N ≤ 20 := by have := g.1.1.1; have := g.1.1.2.1; omega


end Go.Proofs.Ytpadnliebimceaa
