/- The program's marks of colours at vertices. -/
import Derived.Test.YtppkcpekknhbmaaImplG
import Derived.Test.YtppkcpekknhbmaaLawsF
import Derived.Test.YtppkcpekknhbmaaCols
import Derived.Deep.RegionHeld3
import Derived.StillTailTactics
import Derived.BigQuiet
import Derived.BigRegion
namespace Go.Proofs.Ytppkcpekknhbmaa
open Go.RowKit

/-- A block that tells for each of 20 vertices which of three colours its edges have. -/
def OwnC (w : World) (g : Nat) (xs : List Bool) : Prop :=
  xs.length = 60 ∧ ∃ cur, w.heap[g]? = some (.cells cur 105 (0, 0)) ∧ cur.size = 60 ∧ ∀ i, i < 60 → cur[i]? = some (.bool (eL xs i))

section
variable {w w' : World} {g B : Nat} {xs : List Bool}
theorem OwnC.keep (h : OwnC w g xs) (hk : w'.heap[g]? = w.heap[g]?) : OwnC w' g xs := by
  obtain ⟨hl, cur, hc, r⟩ := h
  exact ⟨hl, cur, hk.trans hc, r⟩
theorem OwnC.lt (h : OwnC w g xs) : g < w.heap.size := by
  obtain ⟨_, cur, hc, r⟩ := h
  exact (Array.getElem?_eq_some_iff.1 hc).1
theorem OwnC.on (h : OwnC w g xs) (hb : Below w.heap.size w w') : OwnC w' g xs := h.keep (hb.block g h.lt)
theorem OwnC.far (h : OwnC w g xs) {a : Addr} (ha : g ≠ a.block) (v : Value) : OwnC (w.setCell a v) g xs := h.keep (heap_setCell_other w a g v ha)
theorem OwnC.cell (h : OwnC w g xs) {i : Nat} (hi : i < 60) : w.cell? ⟨g, i, none⟩ = some (.bool (eL xs i)) := by
  obtain ⟨_, cur, hc, _, r⟩ := h
  exact (cell_of_row w g _ cur _ _ hc).trans (r i hi)
theorem OwnC.free (h : OwnC w g xs) (j : Nat) : w.frozen? ⟨g, j, none⟩ = false := by
  obtain ⟨_, cur, hc, r⟩ := h
  exact frozen_of_row w g j cur _ hc
theorem OwnC.set (h : OwnC w g xs) {k : Nat} (hk : k < 60) (x : Bool) : OwnC (w.setCell ⟨g, k, none⟩ (.bool x)) g (xs.set k x) := by
  obtain ⟨hl, cur, hc, hs, r⟩ := h
  refine ⟨by rw [List.length_set]; exact hl, _, heap_setCell_same _ _ _ _ _ _ hc, by simp [hs], fun i hi => ?_⟩
  rw [eL_set (by omega)]
  by_cases e : i = k
  · subst e
    rw [if_pos rfl, Array.getElem?_setIfInBounds, if_pos rfl, if_pos (by omega)]
  · rw [if_neg e, Array.getElem?_setIfInBounds, if_neg (by omega), r i hi]
end

theorem g_alloc {a w : World} {row : Option Nat} (h : a.grownBy w row) (o : Obj) : a.grownBy (w.alloc o) row := ⟨h.os, h.tape, h.output, Nat.le_trans h.size (by simp), fun i hi hne => (Below.heap_alloc w o i (Nat.lt_of_lt_of_le hi h.size)).trans (h.block i hi hne)⟩
theorem g_drew {a w : World} {row : Option Nat} (h : a.grownBy w row) : a.grownBy w.drew row := ⟨h.os, h.tape, h.output, h.size, h.block⟩

theorem free_fits {es : List (Int × Int)} {c : List Int} {k X Y C : Nat} (hX : eA es k = X) (hY : eB es k = Y) (hX2 : X < 20) (hY2 : Y < 20) (hC2 : C < 3) :
    (!(eL (takeL es c k) (X * 3 + C)) && !(eL (takeL es c k) (Y * 3 + C))) = decide (fitsP es c k C) := by
  rw [takeL_at hX2 hC2, takeL_at hY2 hC2]
  by_cases h : fitsP es c k C
  · have h2 := fits_has.1 h
    rw [hX, hY] at h2
    rw [decide_eq_true h, decide_eq_false h2.1, decide_eq_false h2.2]; rfl
  · rw [decide_eq_false h]
    by_cases h1 : hasC es c k X C
    · rw [decide_eq_true h1]; rfl
    · by_cases h2 : hasC es c k Y C
      · rw [decide_eq_true h2]; simp
      · exact absurd (fits_has.2 ⟨by rw [hX]; exact h1, by rw [hY]; exact h2⟩) h

theorem turn_take {es : List (Int × Int)} {c : List Int} {k X Y C : Nat} (hX : eA es k = X) (hY : eB es k = Y) (hC : eI c k = C) (hX2 : X < 20) (hY2 : Y < 20) (hC2 : C < 3) (hf : fitsP es c k C) :
    ((takeL es c k).set (X * 3 + C) (!(eL (takeL es c k) (X * 3 + C)))).set (Y * 3 + C) (!(eL (takeL es c k) (Y * 3 + C))) = takeL es c (k + 1) := by
  have h2 := fits_has.1 hf
  rw [hX, hY] at h2
  rw [takeL_at hX2 hC2, takeL_at hY2 hC2, decide_eq_false h2.1, decide_eq_false h2.2]
  exact takeL_step hX hY hC hC2

set_option maxRecDepth 100000 in
set_option maxHeartbeats 4000000 in
theorem iFree_any (g X Y C : Nat) (ts : List Bool) (w : World) (hX : X < 20) (hY : Y < 20) (hC : C < 3) (ho : OwnC w g ts) :
    Calls Try.prog 104 #[.pointer (some ⟨g, 0, none⟩), .agg #[.int .i64 X, .int .i64 Y], .int .i64 C] w fun e w' => e = .returned (.bool (!(eL ts (X * 3 + C)) && !(eL ts (Y * 3 + C)))) ∧ Below w.heap.size w w' := by
  have h1 := ho.cell (i := X * 3 + C) (by omega)
  have h2 := ho.cell (i := Y * 3 + C) (by omega)
  have hg := ho.lt
  have hX' : (X : Int) < 20 := by omega
  have hY' : (Y : Int) < 20 := by omega
  have hC' : (C : Int) < 3 := by omega
  clear ho
  cases e1 : eL ts (X * 3 + C)
  all_goals
    cases e2 : eL ts (Y * 3 + C)
    all_goals
      rw [e1] at h1
      rw [e2] at h2
      clear e1 e2
      go_enter Try.func104, Try.ntmps104
      go_wp2
      go_quiet (fail)
      go_wp2
      go_ret
      exact ⟨rfl, by simp only [bdn]; go_grown⟩

set_option maxRecDepth 100000 in
set_option maxHeartbeats 4000000 in
theorem iTurn_any (g X Y C : Nat) (ts : List Bool) (w : World) (hX : X < 20) (hY : Y < 20) (hXY : ¬ X = Y) (hC : C < 3) (ho : OwnC w g ts) :
    Calls Try.prog 85 #[.pointer (some ⟨g, 0, none⟩), .agg #[.int .i64 X, .int .i64 Y], .int .i64 C] w fun e w' => e = .returned (.tuple #[]) ∧ OwnC w' g ((ts.set (X * 3 + C) (!(eL ts (X * 3 + C)))).set (Y * 3 + C) (!(eL ts (Y * 3 + C)))) ∧ w.grownBy w' (some g) := by
  have h1 := ho.cell (i := X * 3 + C) (by omega)
  have h2 := ho.cell (i := Y * 3 + C) (by omega)
  have f1 := ho.free (X * 3 + C)
  have f2 := ho.free (Y * 3 + C)
  have hg := ho.lt
  have hX' : (X : Int) < 20 := by omega
  have hY' : (Y : Int) < 20 := by omega
  have hC' : (C : Int) < 3 := by omega
  have hne : ¬ Y * 3 + C = X * 3 + C := by omega
  have HO := hid ho
  clear ho
  go_enter Try.func85, Try.ntmps85
  go_wp2
  go_region
  go_wp2
  go_region
  go_wp2
  go_end0
  exact ⟨rfl, OwnC.keep (w' := World.drew (World.drew _)) (((HO.out.set (by omega) _).set (by omega) _).on (on_alloc _ _)) rfl, g_drew (g_drew (g_alloc (gset (gset (World.grownBy.refl w _) _ _) _ _) _))⟩




end Go.Proofs.Ytppkcpekknhbmaa
