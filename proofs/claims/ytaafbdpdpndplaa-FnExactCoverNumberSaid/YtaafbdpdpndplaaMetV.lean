/- The marks of met vertices in the program. -/
import Derived.Test.YtaafbdpdpndplaaInts
import Derived.Test.YtaafbdpdpndplaaLawsD
import Derived.Test.YtaafbdpdpndplaaOwnMore
import Derived.StillTailTactics
import Derived.BigQuiet
import Derived.BigRegion
namespace Go.Proofs.Ytaafbdpdpndplaa
open Go.RowKit

/-- A block that tells for each of 20 vertices whether it is met. -/
def OwnV (w : World) (g : Nat) (xs : List Bool) : Prop :=
  xs.length = 20 ∧ ∃ cur, w.heap[g]? = some (.cells cur 70 (0, 0)) ∧ cur.size = 20 ∧ ∀ i, i < 20 → cur[i]? = some (.bool (eL xs i))

section
variable {w w' : World} {g B : Nat} {xs : List Bool}
theorem OwnV.keep (h : OwnV w g xs) (hk : w'.heap[g]? = w.heap[g]?) : OwnV w' g xs := by
  obtain ⟨hl, cur, hc, r⟩ := h
  exact ⟨hl, cur, hk.trans hc, r⟩
theorem OwnV.lt (h : OwnV w g xs) : g < w.heap.size := by
  obtain ⟨_, cur, hc, r⟩ := h
  exact (Array.getElem?_eq_some_iff.1 hc).1
theorem OwnV.on (h : OwnV w g xs) (hb : Below w.heap.size w w') : OwnV w' g xs := h.keep (hb.block g h.lt)
theorem OwnV.far (h : OwnV w g xs) {a : Addr} (ha : g ≠ a.block) (v : Value) : OwnV (w.setCell a v) g xs := h.keep (heap_setCell_other w a g v ha)
theorem OwnV.cell (h : OwnV w g xs) {i : Nat} (hi : i < 20) : w.cell? ⟨g, i, none⟩ = some (.bool (eL xs i)) := by
  obtain ⟨_, cur, hc, _, r⟩ := h
  exact (cell_of_row w g _ cur _ _ hc).trans (r i hi)
theorem OwnV.free (h : OwnV w g xs) (j : Nat) : w.frozen? ⟨g, j, none⟩ = false := by
  obtain ⟨_, cur, hc, r⟩ := h
  exact frozen_of_row w g j cur _ hc
theorem OwnV.set (h : OwnV w g xs) {k : Nat} (hk : k < 20) (x : Bool) : OwnV (w.setCell ⟨g, k, none⟩ (.bool x)) g (xs.set k x) := by
  obtain ⟨hl, cur, hc, hs, r⟩ := h
  refine ⟨by rw [List.length_set]; exact hl, _, heap_setCell_same _ _ _ _ _ _ hc, by simp [hs], fun i hi => ?_⟩
  rw [eL_set (by omega)]
  by_cases e : i = k
  · subst e
    rw [if_pos rfl, Array.getElem?_setIfInBounds, if_pos rfl, if_pos (by omega)]
  · rw [if_neg e, Array.getElem?_setIfInBounds, if_neg (by omega), r i hi]
end
theorem own_marks (w : World) (g : Nat) (hg : g = w.heap.size) : OwnV (w.alloc (.cells (Array.replicate 20 (Value.bool false)) 70)) g (List.replicate 20 false) := by
  subst hg
  refine ⟨by simp, _, heap_alloc_new w _, by simp, fun i hi => ?_⟩
  have h0 : eL (List.replicate 20 false) i = false := by
    unfold eL
    rw [List.getD_eq_getElem?_getD, List.getElem?_replicate, if_pos hi]
    rfl
  rw [Array.getElem?_replicate, if_pos hi, h0]

theorem gv_alloc {a w : World} {row : Option Nat} (h : a.grownBy w row) (o : Obj) : a.grownBy (w.alloc o) row := ⟨h.os, h.tape, h.output, Nat.le_trans h.size (by simp), fun i hi hne => (Below.heap_alloc w o i (Nat.lt_of_lt_of_le hi h.size)).trans (h.block i hi hne)⟩
theorem gv_drew {a w : World} {row : Option Nat} (h : a.grownBy w row) : a.grownBy w.drew row := ⟨h.os, h.tape, h.output, h.size, h.block⟩

set_option maxRecDepth 100000 in
set_option maxHeartbeats 4000000 in
theorem iAdd_any (g X Y : Nat) (ts : List Bool) (w : World) (hX : X < 20) (hY : Y < 20) (hXY : ¬ X = Y) (ho : OwnV w g ts) :
    Calls Try.prog 51 #[.pointer (some ⟨g, 0, none⟩), .agg #[.int .i64 X, .int .i64 Y]] w fun e w' => e = .returned (.tuple #[]) ∧ OwnV w' g ((ts.set X true).set Y true) ∧ w.grownBy w' (some g) := by
  have h1 := ho.cell (i := X) (by omega)
  have h2 := ho.cell (i := Y) (by omega)
  have f1 := ho.free X
  have f2 := ho.free Y
  have hg := ho.lt
  have hX' : (X : Int) < 20 := by omega
  have hY' : (Y : Int) < 20 := by omega
  have hne : ¬ Y = X := by omega
  have HO := hid ho
  clear ho
  go_enter Try.func51, Try.ntmps51
  go_wp2
  go_region
  go_wp2
  go_end0
  exact ⟨rfl, OwnV.keep (w' := World.drew _) (((HO.out.set (by omega) _).set (by omega) _).on (on_alloc _ _)) rfl, gv_drew (gv_alloc (gset (gset (World.grownBy.refl w _) _ _) _ _) _)⟩

set_option maxRecDepth 100000 in
set_option maxHeartbeats 4000000 in
theorem iRemove_any (g X Y : Nat) (ts : List Bool) (w : World) (hX : X < 20) (hY : Y < 20) (hXY : ¬ X = Y) (ho : OwnV w g ts) :
    Calls Try.prog 52 #[.pointer (some ⟨g, 0, none⟩), .agg #[.int .i64 X, .int .i64 Y]] w fun e w' => e = .returned (.tuple #[]) ∧ OwnV w' g ((ts.set X false).set Y false) ∧ w.grownBy w' (some g) := by
  have h1 := ho.cell (i := X) (by omega)
  have h2 := ho.cell (i := Y) (by omega)
  have f1 := ho.free X
  have f2 := ho.free Y
  have hg := ho.lt
  have hX' : (X : Int) < 20 := by omega
  have hY' : (Y : Int) < 20 := by omega
  have hne : ¬ Y = X := by omega
  have HO := hid ho
  clear ho
  go_enter Try.func52, Try.ntmps52
  go_wp2
  go_region
  go_wp2
  go_end0
  exact ⟨rfl, OwnV.keep (w' := World.drew _) (((HO.out.set (by omega) _).set (by omega) _).on (on_alloc _ _)) rfl, gv_drew (gv_alloc (gset (gset (World.grownBy.refl w _) _ _) _ _) _)⟩

end Go.Proofs.Ytaafbdpdpndplaa
