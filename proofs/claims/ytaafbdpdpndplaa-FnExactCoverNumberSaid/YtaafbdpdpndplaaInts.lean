/- Lists of numbers and of truth values in memory: rows that grow, results, marks. No program is named here. -/
import Derived.Test.YtaafbdpdpndplaaRowsE
namespace Go.Proofs.Ytaafbdpdpndplaa
open Go.RowKit

def intVals (xs : List Int) : List Value := xs.map fun x => .int .i64 x
theorem intVals_length (xs : List Int) : (intVals xs).length = xs.length := by simp [intVals]
theorem intVals_at {xs : List Int} {i : Nat} (h : i < xs.length) : (intVals xs)[i]? = some (.int .i64 (eI xs i)) := by
  unfold intVals
  rw [List.getElem?_map, int_at h, Option.map_some]
theorem intVals_append (xs ys : List Int) : intVals (xs ++ ys) = intVals xs ++ intVals ys := by simp [intVals]
theorem intVals_one (xs : List Int) : ∀ u ∈ intVals xs, u.oneCell' = true := fun u hu => by
  obtain ⟨x, _, rfl⟩ := List.mem_map.1 hu
  rfl

section
variable {w w' : World} {base g cap n B : Nat} {xs : List Int} {q : Option Addr}
theorem OwnI.of_row (h : w.ownsRow base 2 1 (.slice (some ⟨g, 0, none⟩) n cap) n (intVals xs)) (hl : xs.length = n) : OwnI w g cap xs ∧ base ≤ g := by
  rcases h.2 with ⟨h0, _⟩ | ⟨g', cap', cur, hv, hb, hg, hn, hm, hs, ht⟩
  · cases h0
  · injection hv with e1 e2 e3
    simp only [Option.some.injEq, Addr.mk.injEq] at e1
    obtain ⟨rfl, _⟩ := e1
    subst e3
    refine ⟨⟨cur, hg, by omega, by omega, hm, fun i hi => ?_⟩, hb⟩
    have h1 : (cur.toList.take (n * 1))[i]? = cur.toList[i]? := by rw [List.getElem?_take, if_pos (by omega)]
    rw [ht, intVals_at hi] at h1
    rw [← Array.getElem?_toList, ← h1]

theorem OwnI.row (h : OwnI w g cap xs) (hl : xs.length = n) (hb : base ≤ g) : w.ownsRow base 2 1 (.slice (some ⟨g, 0, none⟩) n cap) n (intVals xs) := by
  obtain ⟨cur, hg, hs, hle, hm, r⟩ := h
  refine ⟨by rw [intVals_length, hl]; omega, .inr ⟨g, cap, cur, rfl, hb, hg, by omega, hm, by omega, ?_⟩⟩
  refine List.ext_getElem? fun j => ?_
  by_cases hj : j < n * 1
  · rw [List.getElem?_take, if_pos hj, Array.getElem?_toList, r j (by omega), intVals_at (by omega)]
  · rw [List.getElem?_eq_none (by rw [List.length_take]; omega), List.getElem?_eq_none (by rw [intVals_length]; omega)]

/-- A slice of numbers in memory of the call's own, from block B on; or nil. -/
def FreshI (B : Nat) (w : World) (q : Option Addr) (n cap : Nat) (xs : List Int) : Prop := w.ownsRow B 2 1 (.slice q n cap) n (intVals xs) ∧ xs.length = n

theorem FreshI.form (h : FreshI B w q n cap xs) : (q = none ∧ n = 0 ∧ cap = 0 ∧ xs = []) ∨ ∃ g, q = some ⟨g, 0, none⟩ ∧ B ≤ g ∧ OwnI w g cap xs := by
  rcases h.1.2 with ⟨e, h0⟩ | ⟨g, cap', cur, e, hb, _⟩
  · injection e with e1 e2 e3
    exact .inl ⟨e1, e2, e3, List.eq_nil_of_length_eq_zero (h.2.trans h0)⟩
  · injection e with e1 e2 e3
    subst e1
    subst e3
    exact .inr ⟨g, rfl, hb, (OwnI.of_row h.1 h.2).1⟩
theorem FreshI.sees (h : FreshI B w q n cap xs) : SeesI w q xs := by
  rcases h.form with ⟨_, _, _, h⟩ | ⟨g, rfl, _, h⟩
  · exact .inl h
  · exact h.sees
theorem FreshI.kept {row : Option Nat} (h : FreshI B w q n cap xs) (hg : w.grownBy w' row) (hne : (Value.slice q n cap).ownBlock = none ∨ (Value.slice q n cap).ownBlock ≠ row) : FreshI B w' q n cap xs := ⟨h.1.kept hg hne, h.2⟩
theorem grown_below (hb : Below w.heap.size w w') : w.grownBy w' none := ⟨hb.os, hb.tape, hb.output, hb.size, fun k hk _ => hb.block k hk⟩
theorem FreshI.on (h : FreshI B w q n cap xs) (hb : Below w.heap.size w w') : FreshI B w' q n cap xs :=
  h.kept (grown_below hb) (by cases hq : (Value.slice q n cap).ownBlock with
    | none => exact .inl rfl
    | some g => exact .inr (by simp))
theorem FreshI.own (h : FreshI B w q n cap xs) {g : Nat} (hg : (Value.slice q n cap).ownBlock = some g) : B ≤ g ∧ g < w.heap.size := h.1.lt g hg
theorem FreshI.far (h : FreshI B w q n cap xs) {a : Addr} (ha : a.block < B) (v : Value) : FreshI B (w.setCell a v) q n cap xs := ⟨ownsRow_setCell_below h.1 ha v, h.2⟩
theorem FreshI.less {B' : Nat} (h : FreshI B w q n cap xs) (hB : B' ≤ B) : FreshI B' w q n cap xs := by
  refine ⟨⟨h.1.1, ?_⟩, h.2⟩
  rcases h.1.2 with hn | ⟨g, c, cur, hv, hb, r⟩
  · exact .inl hn
  · exact .inr ⟨g, c, cur, hv, Nat.le_trans hB hb, r⟩
theorem FreshI.nil (w : World) (B : Nat) : FreshI B w none 0 0 [] := ⟨World.ownsRow_nil _ _ _ _, rfl⟩
theorem FreshI.of_own {g : Nat} (h : OwnI w g cap xs) (hl : xs.length = n) (hb : B ≤ g) : FreshI B w (some ⟨g, 0, none⟩) n cap xs := ⟨h.row hl hb, hl⟩
end

/-- The numbers that the laws write over numbers. -/
def marksI (k : Int) (n : Nat) : List Int := (List.range n).map fun (i : Nat) => k + (i : Int)
theorem marksI_length (k : Int) (n : Nat) : (marksI k n).length = n := by simp [marksI]
theorem marksI_at {k : Int} {n i : Nat} (h : i < n) : eI (marksI k n) i = k + i := by
  rw [eI_lt (by rw [marksI_length]; exact h)]
  simp [marksI]
theorem marksI_step {k : Int} {n j : Nat} {xs : List Int} (hl : xs.length = n) (hj : j < n) :
    (marksI k j ++ xs.drop j).set j (k + j) = marksI k (j + 1) ++ xs.drop (j + 1) := by
  have h1 : (marksI k j).length = j := marksI_length k j
  rw [List.set_append, if_neg (by omega), h1, Nat.sub_self, List.drop_eq_getElem_cons (by omega), List.set_cons_zero]
  unfold marksI
  rw [List.range_succ, List.map_append]
  simp

/- Truth values. -/
def eL (xs : List Bool) (i : Nat) : Bool := xs.getD i false
theorem eL_lt {xs : List Bool} {i : Nat} (h : i < xs.length) : eL xs i = xs[i] := by simp [eL, h]
def OwnB (w : World) (g cap : Nat) (xs : List Bool) : Prop :=
  ∃ cur, w.heap[g]? = some (.cells cur 4 (0, 0)) ∧ cur.size = cap ∧ xs.length ≤ cap ∧ cap ≤ maxLen ∧ ∀ i, i < xs.length → cur[i]? = some (.bool (eL xs i))

section
variable {w w' : World} {g cap B n : Nat} {xs : List Bool}
theorem OwnB.keep (h : OwnB w g cap xs) (hk : w'.heap[g]? = w.heap[g]?) : OwnB w' g cap xs := by
  obtain ⟨cur, hc, r⟩ := h
  exact ⟨cur, hk.trans hc, r⟩
theorem OwnB.lt (h : OwnB w g cap xs) : g < w.heap.size := by
  obtain ⟨cur, hc, r⟩ := h
  exact (Array.getElem?_eq_some_iff.1 hc).1
theorem OwnB.below (h : OwnB w g cap xs) (hb : Below B w w') (hl : g < B) : OwnB w' g cap xs := h.keep (hb.block g hl)
theorem OwnB.on (h : OwnB w g cap xs) (hb : Below w.heap.size w w') : OwnB w' g cap xs := h.below hb h.lt
theorem OwnB.alloc (h : OwnB w g cap xs) (o : Obj) : OwnB (w.alloc o) g cap xs := h.on ((Below.refl _ _).alloc (Nat.le_refl _) o)
theorem OwnB.far (h : OwnB w g cap xs) {a : Addr} (ha : g ≠ a.block) (v : Value) : OwnB (w.setCell a v) g cap xs := h.keep (heap_setCell_other w a g v ha)
theorem OwnB.cell (h : OwnB w g cap xs) {i : Nat} (hi : i < xs.length) : w.cell? ⟨g, i, none⟩ = some (.bool (eL xs i)) := by
  obtain ⟨cur, hc, _, _, _, r⟩ := h
  exact (cell_of_row w g _ cur _ _ hc).trans (r i hi)
theorem OwnB.free (h : OwnB w g cap xs) (j : Nat) : w.frozen? ⟨g, j, none⟩ = false := by
  obtain ⟨cur, hc, r⟩ := h
  exact frozen_of_row w g j cur _ hc
theorem eL_set {k i : Nat} {x : Bool} (hk : k < xs.length) : eL (xs.set k x) i = if i = k then x else eL xs i := by
  unfold eL
  rw [List.getD_eq_getElem?_getD, List.getD_eq_getElem?_getD, List.getElem?_set]
  by_cases h : i = k
  · subst h; simp [hk]
  · simp [Ne.symm h, h]
theorem OwnB.set (h : OwnB w g cap xs) {k : Nat} (hk : k < xs.length) (x : Bool) : OwnB (w.setCell ⟨g, k, none⟩ (.bool x)) g cap (xs.set k x) := by
  obtain ⟨cur, hc, hs, hl, hm, r⟩ := h
  refine ⟨_, heap_setCell_same _ _ _ _ _ _ hc, by simp [hs], by simpa using hl, hm, fun i hi => ?_⟩
  rw [List.length_set] at hi
  rw [eL_set hk]
  by_cases e : i = k
  · subst e
    rw [if_pos rfl, Array.getElem?_setIfInBounds, if_pos rfl, if_pos (by omega)]
  · rw [if_neg e, Array.getElem?_setIfInBounds, if_neg (by omega), r i hi]
theorem OwnB.made {base : Nat} (h : w.ownsRow base 4 1 (.slice (some ⟨g, 0, none⟩) n cap) n (madeCells (Value.bool false).cells (n * 1)).toList) : OwnB w g cap (List.replicate n false) := by
  rcases h.2 with ⟨h0, _⟩ | ⟨g', cap', cur, hv, _, hg, hn, hm, hs, ht⟩
  · cases h0
  · injection hv with e1 e2 e3
    simp only [Option.some.injEq, Addr.mk.injEq] at e1
    obtain ⟨rfl, _⟩ := e1
    subst e3
    refine ⟨cur, hg, by omega, by simpa using hn, hm, fun i hi => ?_⟩
    have hi' : i < n := by simpa using hi
    have h1 : (cur.toList.take (n * 1))[i]? = cur.toList[i]? := by rw [List.getElem?_take, if_pos (by omega)]
    rw [ht] at h1
    rw [← Array.getElem?_toList, ← h1, eL_lt (by simpa using hi')]
    simp [madeCells, hi', Value.cells, Nat.mod_one]
end

end Go.Proofs.Ytaafbdpdpndplaa
