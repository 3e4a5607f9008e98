/- Renumbered graphs in the model. -/
import Derived.Test.YtbimllpfbgjajaaRenA
import Derived.Test.YtbimllpfbgjajaaSpecF
import Derived.Test.YtbimllpfbgjajaaClone
import Derived.Deep.RegionHeld3
namespace Go.Proofs.Ytbimllpfbgjajaa
open Go.RowKit Go.Lib

theorem row_made2 (w : World) (o1 o2 : Obj) : (((w.alloc o1).alloc o2).alloc (.cells #[] 68)).ownsRow (w.heap.size + 1 + 1) 68 2 (.slice (some ⟨w.heap.size + 1 + 1, 0, none⟩) 0 0) 0 [] := by
  have h := World.ownsRow_made (base := w.heap.size + 1 + 1) (e := 68) (size := 2) ((w.alloc o1).alloc o2) #[] 0 (by simp only [World.size_alloc]; omega) (Nat.zero_le _) rfl
  simpa only [World.size_alloc] using h

theorem new_free (w : World) (c : Array Value) (t : TypeId) (o : Nat) (b : Nat) (hb : b = w.heap.size) : (w.alloc (.cells c t)).frozen? ⟨b, o, none⟩ = false := by subst hb; simp


end Go.Proofs.Ytbimllpfbgjajaa
