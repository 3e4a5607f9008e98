/- What the library's sort leaves in memory, said of rows of edges. -/
import Derived.Test.YtafiockejagapaaOrder
import Derived.Shelf.SlSortCmp.WholeK
namespace Go.Proofs.Ytafiockejagapaa
open Go.RowKit Go.Lib Go.Sort Go.Shelf

def encE (e : Int × Int) : List Value := [.int .i64 e.1, .int .i64 e.2]

theorem getElem!_toArray (es : List (Int × Int)) (i : Nat) (h : i < es.length) : es.toArray[i]! = (eA es i, eB es i) := by
  rw [getElem!_pos _ i (by simpa using h)]
  simp [eA_lt h, eB_lt h]

theorem flat_even (es : List (Int × Int)) (i : Nat) (h : i < es.length) : (flatK encE 2 es.toArray)[i * 2]! = .int .i64 (eA es i) := by
  rw [get_flatK _ _ _ _ (by simp; omega), show i * 2 / 2 = i by omega, show i * 2 % 2 = 0 by omega, getElem!_toArray es i h]
  rfl

theorem flat_odd (es : List (Int × Int)) (i : Nat) (h : i < es.length) : (flatK encE 2 es.toArray)[i * 2 + 1]! = .int .i64 (eB es i) := by
  rw [get_flatK _ _ _ _ (by simp; omega), show (i * 2 + 1) / 2 = i by omega, show (i * 2 + 1) % 2 = 1 by omega, getElem!_toArray es i h]
  rfl

theorem OwnE.holdsK {w : World} {g cap : Nat} {es : List (Int × Int)} (h : OwnE w g cap es) : HoldsK encE 2 w g 0 es.toArray := fun j hj => by
  have hj' : j < es.length * 2 := by simpa using hj
  refine ⟨?_, h.free _⟩
  obtain ⟨h1, h2⟩ := h.reads (j / 2) (by omega)
  rcases (by omega : j = j / 2 * 2 ∨ j = j / 2 * 2 + 1) with e | e
  · have h3 := flat_even es (j / 2) (by omega)
    rw [← e] at h1 h3
    rw [h1, h3]
    rfl
  · have h3 := flat_odd es (j / 2) (by omega)
    rw [Nat.add_assoc, ← e] at h2
    rw [← e] at h3
    rw [h2, h3]
    rfl

theorem heap_sortWorldK {w : World} {g n : Nat} {d : Array (Int × Int)} {os : Array Obj} {cur : Array Value} {t : TypeId} {fr : Nat × Nat} (h : w.heap[g]? = some (.cells cur t fr)) :
    (sortWorldK encE 2 w g 0 n d os).heap[g]? = some (.cells (putCells id 0 (flatK encE 2 d) cur) t fr) := by
  have hl : g < w.heap.size := (Array.getElem?_eq_some_iff.1 h).1
  unfold sortWorldK putRowK putRow grow mapBlock
  show ((w.heap.modify g _) ++ os)[g]? = _
  rw [Array.getElem?_append, if_pos (by simpa using hl), Array.getElem?_modify, if_pos rfl, h]
  rfl

theorem OwnE.sorted {w : World} {g cap n : Nat} {es fs : List (Int × Int)} {os : Array Obj} (h : OwnE w g cap es) (hl : fs.length = es.length) : OwnE (sortWorldK encE 2 w g 0 n fs.toArray os) g cap fs := by
  obtain ⟨cur, hc, hs, hle, hm, r⟩ := h
  refine ⟨_, heap_sortWorldK hc, by simp [putCells, hs], by omega, hm, fun i hi => ?_⟩
  have key : ∀ j, j < fs.length * 2 → (putCells id 0 (flatK encE 2 fs.toArray) cur)[j]? = some (flatK encE 2 fs.toArray)[j]! := fun j hj => by
    unfold putCells
    rw [Array.getElem?_mapIdx, Array.getElem?_eq_getElem (by omega)]
    simp [hj]
  rw [key _ (by omega), key _ (by omega), flat_even fs i hi, flat_odd fs i hi]
  exact ⟨rfl, rfl⟩

theorem below_sorted (w : World) (g n : Nat) (d : Array (Int × Int)) (os : Array Obj) (hg : g < w.heap.size) : RowKit.Below g w (sortWorldK encE 2 w g 0 n d os) := by
  refine ⟨rfl, rfl, rfl, ?_, fun k hk => ?_⟩
  · unfold sortWorldK putRowK putRow grow mapBlock
    show w.heap.size ≤ ((w.heap.modify g _) ++ os).size
    simp
  · unfold sortWorldK putRowK putRow grow mapBlock
    show ((w.heap.modify g _) ++ os)[k]? = _
    rw [Array.getElem?_append]
    rw [if_pos (by simp; omega), Array.getElem?_modify, if_neg (by omega)]

end Go.Proofs.Ytafiockejagapaa
