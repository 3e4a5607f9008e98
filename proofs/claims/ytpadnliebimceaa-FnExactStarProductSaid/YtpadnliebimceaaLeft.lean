/- What is left of a graph in the program: leftOf. -/
import Derived.Test.YtpadnliebimceaaRestA
import Derived.Test.YtpadnliebimceaaSetI
import Derived.Test.YtpadnliebimceaaLawsF
import Derived.Test.YtpadnliebimceaaSpecAt
import Derived.Test.YtpadnliebimceaaOwnMore
import Derived.Deep.AppendLies
import Derived.Deep.DeepMust
import Derived.Deep.RegionHeld3
import Derived.Deep.DeepCutAuto
import Derived.BigRegion
namespace Go.Proofs.Ytpadnliebimceaa
open Go.RowKit

/-- A block that is a graph of the call's own. -/
def GBox (w : World) (b : Nat) (s : Int) (q : Option Addr) (n c : Nat) : Prop := w.heap[b]? = some (.cells #[.int .i64 s, .slice q n c] 24 (0, 0))
section
variable {w w' : World} {b n c : Nat} {s : Int} {q : Option Addr}
theorem GBox.keep (h : GBox w b s q n c) (hk : w'.heap[b]? = w.heap[b]?) : GBox w' b s q n c := hk.trans h
theorem GBox.lt (h : GBox w b s q n c) : b < w.heap.size := (Array.getElem?_eq_some_iff.1 h).1
theorem GBox.on (h : GBox w b s q n c) (hb : Below w.heap.size w w') : GBox w' b s q n c := h.keep (hb.block b h.lt)
theorem GBox.box (h : GBox w b s q n c) : Box w b s q n c := ⟨(cell_of_row w b 0 _ _ _ h).trans rfl, (cell_of_row w b 1 _ _ _ h).trans rfl⟩
theorem GBox.frozen (h : GBox w b s q n c) (j : Nat) : w.frozen? ⟨b, j, none⟩ = false := frozen_of_row w b j _ _ h
theorem GBox.new (w : World) (g : Nat) (hg : g = w.heap.size) : GBox (w.alloc (.cells #[.int .i64 s, .slice q n c] 24)) g s q n c := by
  subst hg
  exact heap_alloc_new w _
theorem GBox.set1 (h : GBox w b s q n c) (q' : Option Addr) (n' c' : Nat) : GBox (w.setCell ⟨b, 1, none⟩ (.slice q' n' c')) b s q' n' c' := (heap_setCell_same w b 1 _ _ _ h).trans rfl
theorem GBox.set0 (h : GBox w b s q n c) (s' : Int) : GBox (w.setCell ⟨b, 0, none⟩ (.int .i64 s')) b s' q n c := (heap_setCell_same w b 0 _ _ _ h).trans rfl
theorem GBox.far (h : GBox w b s q n c) {a : Addr} (ha : b ≠ a.block) (v : Value) : GBox (w.setCell a v) b s q n c := h.keep (heap_setCell_other w a b v ha)
end

theorem grown_one (w : World) (g : Nat) : w.grownBy w (some g) := ⟨rfl, rfl, rfl, Nat.le_refl _, fun _ _ _ => rfl⟩


end Go.Proofs.Ytpadnliebimceaa
