/- The library's sort of a list of numbers, said of rows of numbers of the call's own. -/
import Derived.Test.YtfdlhdgmbjdhbaaLawsF
import Derived.Test.YtfdlhdgmbjdhbaaShelfI
import Derived.Shelf.SortM.Plain
import Derived.Shelf.SortM.SortNone
namespace Go.Proofs.Ytfdlhdgmbjdhbaa
open Go.RowKit Go.Lib Go.Sort Go.Shelf

theorem getInt!_toArray (xs : List Int) (i : Nat) (h : i < xs.length) : xs.toArray[i]! = eI xs i := by
  rw [getElem!_pos _ i (by simpa using h), eI_lt h]
  simp

theorem OwnI.holds {w : World} {g cap : Nat} {xs : List Int} (h : OwnI w g cap xs) : Holds (Value.int .i64) w g 0 xs.toArray := fun j hj => by
  have hj' : j < xs.length := by simpa using hj
  refine ⟨?_, h.free _⟩
  have h1 := h.reads j hj'
  rw [h1, getInt!_toArray xs j hj']

/-- The world behind the sort. -/
def sortedW (w : World) (g n : Nat) (xs : List Int) (os : Array Obj) : World := grow (putRow (Value.int .i64) (Sort.ahead w n) g 0 xs.toArray) os

theorem heap_sortedW {w : World} {g n : Nat} {xs : List Int} {os : Array Obj} {cur : Array Value} {t : TypeId} {fr : Nat × Nat} (h : w.heap[g]? = some (.cells cur t fr)) :
    (sortedW w g n xs os).heap[g]? = some (.cells (putCells (Value.int .i64) 0 xs.toArray cur) t fr) := by
  have hl : g < w.heap.size := (Array.getElem?_eq_some_iff.1 h).1
  unfold sortedW putRow grow mapBlock
  show ((w.heap.modify g _) ++ os)[g]? = _
  rw [Array.getElem?_append, if_pos (by simpa using hl), Array.getElem?_modify, if_pos rfl, h]
  rfl

theorem OwnI.sorted {w : World} {g cap n : Nat} {xs ys : List Int} {os : Array Obj} (h : OwnI w g cap xs) (hl : ys.length = xs.length) : OwnI (sortedW w g n ys os) g cap ys := by
  obtain ⟨cur, hc, hs, hle, hm, r⟩ := h
  refine ⟨_, heap_sortedW hc, by simp [putCells, hs], by omega, hm, fun i hi => ?_⟩
  unfold putCells
  rw [Array.getElem?_mapIdx, Array.getElem?_eq_getElem (by omega)]
  have h1 := getInt!_toArray ys i hi
  simp [hi] at h1 ⊢
  exact h1

theorem grown_sorted (w : World) (g n : Nat) (xs : List Int) (os : Array Obj) (_hg : g < w.heap.size) : w.grownBy (sortedW w g n xs os) (some g) := by
  refine ⟨rfl, rfl, rfl, ?_, fun k hk hne => ?_⟩
  · unfold sortedW putRow grow mapBlock
    show w.heap.size ≤ ((w.heap.modify g _) ++ os).size
    simp
  · unfold sortedW putRow grow mapBlock
    show ((w.heap.modify g _) ++ os)[k]? = _
    rw [Array.getElem?_append]
    rw [if_pos (by simp; omega), Array.getElem?_modify, if_neg (fun e => hne (by rw [e]))]

theorem sortI_any (g cap m : Nat) (xs : List Int) (w : World) (ho : OwnI w g cap xs) (hl : xs.length = m) (hm : m ≤ 1048576) :
    Calls Try.prog 83 #[.slice (some ⟨g, 0, none⟩) m cap] w fun e w' => e = .returned (.tuple #[]) ∧ OwnI w' g cap (xs.mergeSort fun x y => decide (x ≤ y)) ∧ w.grownBy w' (some g) := by
  have hcon := AnyM.slices_Sort_int Try.sortI g 0 cap xs w ho.holds ho.lt (by omega)
  change Calls Try.prog 83 _ _ _ at hcon
  subst hl
  refine hcon.mono ?_
  rintro e w' ⟨he, n, os, rfl⟩
  exact ⟨he, ho.sorted (List.length_mergeSort _), grown_sorted _ _ _ _ _ ho.lt⟩

/-- A sorted list that has the same members as often is the sorted one. -/
theorem mergeSort_eq {xs ys : List Int} (hp : xs.Perm ys) (hs : ys.Pairwise (fun x y => x ≤ y)) : (xs.mergeSort fun x y => decide (x ≤ y)) = ys := by
  have h1 : (xs.mergeSort fun x y => decide (x ≤ y)).Pairwise (fun a b => decide (a ≤ b) = true) := List.pairwise_mergeSort (fun a b c h1 h2 => by simp at *; omega) (fun a b => by simp; omega) _
  have h2 : (xs.mergeSort fun x y => decide (x ≤ y)).Perm ys := (List.mergeSort_perm _ _).trans hp
  refine h2.eq_of_pairwise (le := fun a b => a ≤ b) (fun a b _ _ h h' => by omega) (h1.imp (by simp)) hs

end Go.Proofs.Ytfdlhdgmbjdhbaa
