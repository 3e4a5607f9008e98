/- More on rows of numbers of the call's own. -/
import Derived.Test.YtaafbdpdpndplaaLawsF
namespace Go.Proofs.Ytaafbdpdpndplaa
open Go.RowKit

theorem OwnI.drewN {w : World} {g cap n : Nat} {xs : List Int} (h : OwnI w g cap xs) : OwnI (w.drewN n) g cap xs := h
theorem own_one (w : World) (g : Nat) (x : Int) (hg : g = w.heap.size) : OwnI (w.alloc (.cells #[.int .i64 x] 2)) g 1 [x] := by
  subst hg
  refine ⟨_, heap_alloc_new w _, rfl, Nat.le_refl _, by unfold maxLen; omega, fun i hi => ?_⟩
  have hi' : i < 1 := hi
  obtain rfl : i = 0 := by omega
  rfl
theorem own_nil (w : World) (g : Nat) (hg : g = w.heap.size) : OwnI (w.alloc (.cells #[] 2)) g 0 [] := by
  subst hg
  exact ⟨_, heap_alloc_new w _, rfl, Nat.le_refl _, by unfold maxLen; omega, fun i hi => by simp at hi⟩
/-- A row that grows keeps the other blocks, and a block that is not its own is not that of the grown row. -/
theorem OwnI.grown {w w' : World} {g g1 cap : Nat} {xs : List Int} (h : OwnI w g cap xs) (hg : w.grownBy w' (some g1)) (hne : g ≠ g1) : OwnI w' g cap xs := h.keep (hg.block g h.lt (fun e => hne (Option.some.inj e)))
theorem ReadsI.grown {w w' : World} {b off g1 : Nat} {xs : List Int} (h : ReadsI w b off xs) (hl : b < w.heap.size) (hg : w.grownBy w' (some g1)) (hne : b ≠ g1) : ReadsI w' b off xs := h.keep (hg.block b hl (fun e => hne (Option.some.inj e)))
theorem ReadsI.far {w : World} {b off : Nat} {xs : List Int} (h : ReadsI w b off xs) {a : Addr} (ha : b ≠ a.block) (v : Value) : ReadsI (w.setCell a v) b off xs := h.keep (heap_setCell_other w a b v ha)
theorem below_grown_row {B g1 : Nat} {w0 w w' : World} (h : Below B w0 w) (hg : w.grownBy w' (some g1)) (hB : B ≤ w.heap.size) (hne : B ≤ g1) : Below B w0 w' := h.grown hg hB (fun j hj => by cases hj; exact hne)
theorem Box.far {w : World} {B n c : Nat} {s : Int} {p : Option Addr} (h : Box w B s p n c) {a : Addr} (ha : B ≠ a.block) (v : Value) : Box (w.setCell a v) B s p n c := by
  refine ⟨?_, ?_⟩
  · exact (World.cell?_of_block (w := w) (a := ⟨B, 0, none⟩) (heap_setCell_other w a B v ha)).trans h.1
  · exact (World.cell?_of_block (w := w) (a := ⟨B, 1, none⟩) (heap_setCell_other w a B v ha)).trans h.2

end Go.Proofs.Ytaafbdpdpndplaa
