/- Edges in memory: how lists of edges lie in blocks of the call's own and in blocks that came in, and what draws, new blocks and stores leave of them. No program is named here. -/
import Derived.WalkKit
import Derived.Handy
import Derived.Deep.QuietTactic
import Derived.WalkSmall
namespace Go.Proofs.Ytaafbdpdpndplaa
open Go.RowKit

theorem hid {p : Prop} (h : p) : Hid p := h

theorem bdn {B : Nat} {a w : World} {n : Nat} : Below B a (w.drewN n) ↔ Below B a w := ⟨fun h => ⟨h.os, h.tape, h.output, h.size, h.block⟩, fun h => ⟨h.os, h.tape, h.output, h.size, h.block⟩⟩

/-- What lay in memory ahead of a call reads as it did: two rules for the walk. -/
theorem bcells {w w1 : World} (hb : Below w.heap.size w w1) : (∀ b o, b < w.heap.size → w1.cell? ⟨b, o, none⟩ = w.cell? ⟨b, o, none⟩) ∧ (∀ b o, b < w.heap.size → w1.frozen? ⟨b, o, none⟩ = w.frozen? ⟨b, o, none⟩) :=
  ⟨fun b o h => hb.cell (p := ⟨b, o, none⟩) h, fun b o h => hb.frozen (p := ⟨b, o, none⟩) h⟩

theorem bfrom {w W w2 : World} (h : Below w.heap.size w W) (hb : Below W.heap.size W w2) : Below w.heap.size w w2 := h.trans (hb.mono h.size)

/-- The first and the second number of the edge with the number i. -/
def eA (es : List (Int × Int)) (i : Nat) : Int := (es.getD i (0, 0)).1
def eB (es : List (Int × Int)) (i : Nat) : Int := (es.getD i (0, 0)).2

theorem eA_lt {es : List (Int × Int)} {i : Nat} (h : i < es.length) : eA es i = es[i].1 := by simp [eA, h]
theorem eB_lt {es : List (Int × Int)} {i : Nat} (h : i < es.length) : eB es i = es[i].2 := by simp [eB, h]

/-- Edges lie in memory from a place on, two numbers each. -/
def ReadsE (w : World) (b off : Nat) (es : List (Int × Int)) : Prop :=
  ∀ i, i < es.length → w.cell? ⟨b, off + i * 2, none⟩ = some (.int .i64 (eA es i)) ∧ w.cell? ⟨b, off + i * 2 + 1, none⟩ = some (.int .i64 (eB es i))

theorem ReadsE.keep {w w' : World} {b off : Nat} {es : List (Int × Int)} (h : ReadsE w b off es) (hk : w'.heap[b]? = w.heap[b]?) : ReadsE w' b off es := fun i hi => by
  obtain ⟨h1, h2⟩ := h i hi
  exact ⟨(World.cell?_of_block (w := w) hk).trans h1, (World.cell?_of_block (w := w) hk).trans h2⟩

theorem ReadsE.below {B : Nat} {w w' : World} {b off : Nat} {es : List (Int × Int)} (h : ReadsE w b off es) (hb : Below B w w') (hl : b < B) : ReadsE w' b off es := h.keep (hb.block b hl)

/-- A slice value's address sees edges: it has none, or they lie there. -/
def SeesE (w : World) (p : Option Addr) (es : List (Int × Int)) : Prop := es = [] ∨ ∃ b off, p = some ⟨b, off, none⟩ ∧ ReadsE w b off es

/-- A block of the call's own with room for 'cap' edges, the first of which are the edges of a list. -/
def OwnE (w : World) (g cap : Nat) (es : List (Int × Int)) : Prop :=
  ∃ cur, w.heap[g]? = some (.cells cur 53 (0, 0)) ∧ cur.size = cap * 2 ∧ es.length ≤ cap ∧ cap ≤ maxLen ∧
    ∀ i, i < es.length → cur[i * 2]? = some (.int .i64 (eA es i)) ∧ cur[i * 2 + 1]? = some (.int .i64 (eB es i))

theorem OwnE.keep {w w' : World} {g cap : Nat} {es : List (Int × Int)} (h : OwnE w g cap es) (hk : w'.heap[g]? = w.heap[g]?) : OwnE w' g cap es := by
  obtain ⟨cur, hc, r⟩ := h
  exact ⟨cur, hk.trans hc, r⟩

theorem OwnE.lt {w : World} {g cap : Nat} {es : List (Int × Int)} (h : OwnE w g cap es) : g < w.heap.size := by
  obtain ⟨cur, hc, r⟩ := h
  exact (Array.getElem?_eq_some_iff.1 hc).1

theorem OwnE.below {B : Nat} {w w' : World} {g cap : Nat} {es : List (Int × Int)} (h : OwnE w g cap es) (hb : Below B w w') (hl : g < B) : OwnE w' g cap es := h.keep (hb.block g hl)

theorem OwnE.far {w : World} {g cap : Nat} {es : List (Int × Int)} (h : OwnE w g cap es) {a : Addr} (ha : g ≠ a.block) (v : Value) : OwnE (w.setCell a v) g cap es := h.keep (heap_setCell_other w a g v ha)

theorem OwnE.reads {w : World} {g cap : Nat} {es : List (Int × Int)} (h : OwnE w g cap es) : ReadsE w g 0 es := fun i hi => by
  obtain ⟨cur, hc, _, _, _, r⟩ := h
  obtain ⟨h1, h2⟩ := r i hi
  rw [Nat.zero_add]
  exact ⟨(cell_of_row w g _ cur _ _ hc).trans h1, (cell_of_row w g _ cur _ _ hc).trans h2⟩

theorem OwnE.free {w : World} {g cap : Nat} {es : List (Int × Int)} (h : OwnE w g cap es) (j : Nat) : w.frozen? ⟨g, j, none⟩ = false := by
  obtain ⟨cur, hc, r⟩ := h
  exact frozen_of_row w g j cur _ hc

theorem OwnE.le {w : World} {g cap : Nat} {es : List (Int × Int)} (h : OwnE w g cap es) : es.length ≤ cap := by
  obtain ⟨cur, hc, _, r, _⟩ := h
  exact r

theorem eA_set {es : List (Int × Int)} {k i : Nat} {x y : Int} (hk : k < es.length) : eA (es.set k (x, y)) i = if i = k then x else eA es i := by
  unfold eA
  rw [List.getD_eq_getElem?_getD, List.getD_eq_getElem?_getD, List.getElem?_set]
  by_cases h : i = k
  · subst h; simp [hk]
  · simp [Ne.symm h, h]

theorem eB_set {es : List (Int × Int)} {k i : Nat} {x y : Int} (hk : k < es.length) : eB (es.set k (x, y)) i = if i = k then y else eB es i := by
  unfold eB
  rw [List.getD_eq_getElem?_getD, List.getD_eq_getElem?_getD, List.getElem?_set]
  by_cases h : i = k
  · subst h; simp [hk]
  · simp [Ne.symm h, h]

/-- A store of a whole edge. -/
theorem OwnE.set {w : World} {g cap : Nat} {es : List (Int × Int)} (h : OwnE w g cap es) {k : Nat} (hk : k < es.length) (x y : Int) :
    OwnE ((w.setCell ⟨g, k * 2, none⟩ (.int .i64 x)).setCell ⟨g, k * 2 + 1, none⟩ (.int .i64 y)) g cap (es.set k (x, y)) := by
  obtain ⟨cur, hc, hs, hl, hm, r⟩ := h
  refine ⟨_, heap_setCell_same _ _ _ _ _ _ (heap_setCell_same _ _ _ _ _ _ hc), by simp [hs], by simpa using hl, hm, fun i hi => ?_⟩
  rw [List.length_set] at hi
  obtain ⟨h1, h2⟩ := r i hi
  rw [eA_set hk, eB_set hk]
  by_cases e : i = k
  · subst e
    simp only [if_true]
    constructor
    · rw [Array.getElem?_setIfInBounds, if_neg (by omega), Array.getElem?_setIfInBounds, if_pos rfl, if_pos (by omega)]
    · rw [Array.getElem?_setIfInBounds, if_pos rfl, if_pos (by simp; omega)]
  · simp only [if_neg e]
    constructor
    · rw [Array.getElem?_setIfInBounds, if_neg (by omega), Array.getElem?_setIfInBounds, if_neg (by omega), h1]
    · rw [Array.getElem?_setIfInBounds, if_neg (by omega), Array.getElem?_setIfInBounds, if_neg (by omega), h2]

/-- What 'make' lays. -/
theorem OwnE.made {w : World} {base g n cap : Nat} (h : w.ownsRow base 53 2 (.slice (some ⟨g, 0, none⟩) n cap) n (madeCells (Value.agg #[.int .i64 0, .int .i64 0]).cells (n * 2)).toList) :
    OwnE w g cap (List.replicate n (0, 0)) := by
  rcases h.2 with ⟨h0, _⟩ | ⟨g', cap', cur, hv, _, hg, hn, hm, hs, ht⟩
  · cases h0
  · injection hv with e1 e2 e3
    simp only [Option.some.injEq, Addr.mk.injEq] at e1
    obtain ⟨rfl, _⟩ := e1
    subst e3
    refine ⟨cur, hg, hs, by simpa using hn, hm, fun i hi => ?_⟩
    have hi' : i < n := by simpa using hi
    have key : ∀ j, j < n * 2 → cur[j]? = some (.int .i64 0) := fun j hj => by
      have h1 : (cur.toList.take (n * 2))[j]? = cur.toList[j]? := by rw [List.getElem?_take, if_pos hj]
      rw [ht] at h1
      rw [← Array.getElem?_toList, ← h1]
      simp [madeCells, hj]
      rcases (by omega : j % 2 = 0 ∨ j % 2 = 1) with h | h <;> simp [Value.cells, h]
    have ea : eA (List.replicate n ((0 : Int), (0 : Int))) i = 0 := by rw [eA_lt (by simpa using hi')]; simp
    have eb : eB (List.replicate n ((0 : Int), (0 : Int))) i = 0 := by rw [eB_lt (by simpa using hi')]; simp
    rw [ea, eb]
    exact ⟨key _ (by omega), key _ (by omega)⟩

/-- A list that is filled from its head on, one more element. -/
theorem fill_step {α : Type} {es : List α} {z : α} {n k : Nat} (hn : es.length = n) (hk : k < n) (x : α) (hx : es[k]? = some x) :
    (es.take k ++ List.replicate (n - k) z).set k x = es.take (k + 1) ++ List.replicate (n - (k + 1)) z := by
  have h1 : (es.take k).length = k := by rw [List.length_take]; omega
  obtain ⟨m, hm⟩ : ∃ m, n - k = m + 1 := ⟨n - k - 1, by omega⟩
  have h2 : n - (k + 1) = m := by omega
  rw [h2, hm, List.set_append, if_neg (by omega), h1, Nat.sub_self, List.replicate_succ, List.set_cons_zero, List.take_add_one, hx]
  simp

theorem reads_lt {b off : Nat} {w : World} {es : List (Int × Int)} (h : ReadsE w b off es) (hne : 0 < es.length) : b < w.heap.size :=
  World.block_lt_of_cell? w ⟨b, off + 0 * 2, none⟩ (h 0 hne).1

theorem ReadsE.on {b off : Nat} {w w' : World} {es : List (Int × Int)} (h : ReadsE w b off es) (hb : Below w.heap.size w w') : ReadsE w' b off es := fun i hi =>
  have hl : b < w.heap.size := reads_lt h (by omega)
  (h.below hb hl) i hi

theorem SeesE.on {p : Option Addr} {w w' : World} {es : List (Int × Int)} (h : SeesE w p es) (hb : Below w.heap.size w w') : SeesE w' p es := by
  rcases h with h | ⟨b, off, hp, h⟩
  · exact .inl h
  · exact .inr ⟨b, off, hp, h.on hb⟩

theorem SeesE.alloc {p : Option Addr} {w : World} {es : List (Int × Int)} (h : SeesE w p es) (o : Obj) : SeesE (w.alloc o) p es := h.on ((Below.refl _ _).alloc (Nat.le_refl _) o)

theorem OwnE.on {w w' : World} {g cap : Nat} {es : List (Int × Int)} (h : OwnE w g cap es) (hb : Below w.heap.size w w') : OwnE w' g cap es := h.below hb h.lt

theorem OwnE.alloc {w : World} {g cap : Nat} {es : List (Int × Int)} (h : OwnE w g cap es) (o : Obj) : OwnE (w.alloc o) g cap es := h.on ((Below.refl _ _).alloc (Nat.le_refl _) o)

theorem OwnE.sees {w : World} {g cap : Nat} {es : List (Int × Int)} (h : OwnE w g cap es) : SeesE w (some ⟨g, 0, none⟩) es := .inr ⟨g, 0, rfl, h.reads⟩

theorem pair_at {es : List (Int × Int)} {k : Nat} (hk : k < es.length) : es[k]? = some (eA es k, eB es k) := by
  rw [eA_lt hk, eB_lt hk, List.getElem?_eq_getElem hk]

/-- Two lists of the same length part at a place, or are one. -/
theorem eq_or_part : ∀ (xs ys : List (Int × Int)) (n : Nat), xs.length = n → ys.length = n → (xs == ys) = true ∧ xs = ys ∨ ∃ k, k < n ∧ (xs == ys) = false ∧ xs.take k = ys.take k ∧ (eA xs k == eA ys k && eB xs k == eB ys k) = false
  | [], [], _, _, _ => .inl ⟨rfl, rfl⟩
  | [], _ :: _, _, h, h' => by simp at h h'; omega
  | _ :: _, [], _, h, h' => by simp at h h'; omega
  | (a, b) :: xs, (c, d) :: ys, n, h, h' => by
    obtain ⟨m, rfl⟩ : ∃ m, n = m + 1 := ⟨n - 1, by simp at h; omega⟩
    simp only [List.length_cons, Nat.add_right_cancel_iff] at h h'
    by_cases e : a = c ∧ b = d
    · obtain ⟨rfl, rfl⟩ := e
      rcases eq_or_part xs ys m h h' with ⟨h1, rfl⟩ | ⟨k, hk, h2, h3, h4⟩
      · exact .inl ⟨by simp, rfl⟩
      · refine .inr ⟨k + 1, by omega, by simpa using h2, by simp [h3], ?_⟩
        simpa [eA, eB] using h4
    · refine .inr ⟨0, by omega, ?_, rfl, ?_⟩
      · simp; intro e1 e2; exact absurd ⟨e1, e2⟩ e
      · simp [eA, eB]; intro e1 e2; exact e ⟨e1, e2⟩

theorem take_step {xs ys : List (Int × Int)} {n k : Nat} (hx : xs.length = n) (hy : ys.length = n) (hk : k < n) (h : xs.take k = ys.take k) (e : eA xs k = eA ys k ∧ eB xs k = eB ys k) : xs.take (k + 1) = ys.take (k + 1) := by
  rw [List.take_add_one, List.take_add_one, h, pair_at (by omega), pair_at (by omega), e.1, e.2]

theorem ne_of_part {xs ys : List (Int × Int)} {k : Nat} (h : ¬ (eA xs k = eA ys k ∧ eB xs k = eB ys k)) : (xs == ys) = false := by
  simp only [beq_eq_false_iff_ne, ne_eq]
  rintro rfl
  exact h ⟨rfl, rfl⟩

/-- Where the beginnings are one, each pair before is one. -/
theorem pair_of_take {xs ys : List (Int × Int)} {k j : Nat} (h : xs.take k = ys.take k) (hj : j < k) : eA xs j = eA ys j ∧ eB xs j = eB ys j := by
  have e : xs[j]? = ys[j]? := by
    have h1 := congrArg (·[j]?) h
    simpa [List.getElem?_take, hj] using h1
  simp [eA, eB, List.getD_eq_getElem?_getD, e]

/- The same for lists of numbers. -/
def eI (xs : List Int) (i : Nat) : Int := xs.getD i 0
theorem eI_lt {xs : List Int} {i : Nat} (h : i < xs.length) : eI xs i = xs[i] := by simp [eI, h]
theorem int_at {xs : List Int} {k : Nat} (hk : k < xs.length) : xs[k]? = some (eI xs k) := by rw [eI_lt hk, List.getElem?_eq_getElem hk]

def ReadsI (w : World) (b off : Nat) (xs : List Int) : Prop := ∀ i, i < xs.length → w.cell? ⟨b, off + i, none⟩ = some (.int .i64 (eI xs i))
def SeesI (w : World) (p : Option Addr) (xs : List Int) : Prop := xs = [] ∨ ∃ b off, p = some ⟨b, off, none⟩ ∧ ReadsI w b off xs
def OwnI (w : World) (g cap : Nat) (xs : List Int) : Prop :=
  ∃ cur, w.heap[g]? = some (.cells cur 2 (0, 0)) ∧ cur.size = cap ∧ xs.length ≤ cap ∧ cap ≤ maxLen ∧ ∀ i, i < xs.length → cur[i]? = some (.int .i64 (eI xs i))

section
variable {w w' : World} {g cap b off B : Nat} {xs : List Int} {p : Option Addr}
theorem ReadsI.keep (h : ReadsI w b off xs) (hk : w'.heap[b]? = w.heap[b]?) : ReadsI w' b off xs := fun i hi => (World.cell?_of_block (w := w) hk).trans (h i hi)
theorem ReadsI.lt (h : ReadsI w b off xs) (hne : 0 < xs.length) : b < w.heap.size := World.block_lt_of_cell? w ⟨b, off + 0, none⟩ (h 0 hne)
theorem ReadsI.on (h : ReadsI w b off xs) (hb : Below w.heap.size w w') : ReadsI w' b off xs := fun i hi =>
  have hl : b < w.heap.size := h.lt (by omega)
  (h.keep (hb.block b hl)) i hi
theorem SeesI.on (h : SeesI w p xs) (hb : Below w.heap.size w w') : SeesI w' p xs := by
  rcases h with h | ⟨b, off, hp, h⟩
  · exact .inl h
  · exact .inr ⟨b, off, hp, h.on hb⟩
theorem SeesI.alloc (h : SeesI w p xs) (o : Obj) : SeesI (w.alloc o) p xs := h.on ((Below.refl _ _).alloc (Nat.le_refl _) o)
theorem OwnI.keep (h : OwnI w g cap xs) (hk : w'.heap[g]? = w.heap[g]?) : OwnI w' g cap xs := by
  obtain ⟨cur, hc, r⟩ := h
  exact ⟨cur, hk.trans hc, r⟩
theorem OwnI.lt (h : OwnI w g cap xs) : g < w.heap.size := by
  obtain ⟨cur, hc, r⟩ := h
  exact (Array.getElem?_eq_some_iff.1 hc).1
theorem OwnI.below (h : OwnI w g cap xs) (hb : Below B w w') (hl : g < B) : OwnI w' g cap xs := h.keep (hb.block g hl)
theorem OwnI.on (h : OwnI w g cap xs) (hb : Below w.heap.size w w') : OwnI w' g cap xs := h.below hb h.lt
theorem OwnI.alloc (h : OwnI w g cap xs) (o : Obj) : OwnI (w.alloc o) g cap xs := h.on ((Below.refl _ _).alloc (Nat.le_refl _) o)
theorem OwnI.far (h : OwnI w g cap xs) {a : Addr} (ha : g ≠ a.block) (v : Value) : OwnI (w.setCell a v) g cap xs := h.keep (heap_setCell_other w a g v ha)
theorem OwnI.reads (h : OwnI w g cap xs) : ReadsI w g 0 xs := fun i hi => by
  obtain ⟨cur, hc, _, _, _, r⟩ := h
  rw [Nat.zero_add]
  exact (cell_of_row w g _ cur _ _ hc).trans (r i hi)
theorem OwnI.sees (h : OwnI w g cap xs) : SeesI w (some ⟨g, 0, none⟩) xs := .inr ⟨g, 0, rfl, h.reads⟩
theorem OwnI.free (h : OwnI w g cap xs) (j : Nat) : w.frozen? ⟨g, j, none⟩ = false := by
  obtain ⟨cur, hc, r⟩ := h
  exact frozen_of_row w g j cur _ hc
theorem OwnI.le (h : OwnI w g cap xs) : xs.length ≤ cap := by
  obtain ⟨cur, hc, _, r, _⟩ := h
  exact r
theorem eI_set {k i : Nat} {x : Int} (hk : k < xs.length) : eI (xs.set k x) i = if i = k then x else eI xs i := by
  unfold eI
  rw [List.getD_eq_getElem?_getD, List.getD_eq_getElem?_getD, List.getElem?_set]
  by_cases h : i = k
  · subst h; simp [hk]
  · simp [Ne.symm h, h]
theorem OwnI.set (h : OwnI w g cap xs) {k : Nat} (hk : k < xs.length) (x : Int) : OwnI (w.setCell ⟨g, k, none⟩ (.int .i64 x)) g cap (xs.set k x) := by
  obtain ⟨cur, hc, hs, hl, hm, r⟩ := h
  refine ⟨_, heap_setCell_same _ _ _ _ _ _ hc, by simp [hs], by simpa using hl, hm, fun i hi => ?_⟩
  rw [List.length_set] at hi
  rw [eI_set hk]
  by_cases e : i = k
  · subst e
    rw [if_pos rfl, Array.getElem?_setIfInBounds, if_pos rfl, if_pos (by omega)]
  · rw [if_neg e, Array.getElem?_setIfInBounds, if_neg (by omega), r i hi]
theorem OwnI.made {base n : Nat} (h : w.ownsRow base 2 1 (.slice (some ⟨g, 0, none⟩) n cap) n (madeCells (Value.int .i64 0).cells (n * 1)).toList) : OwnI w g cap (List.replicate n 0) := by
  rcases h.2 with ⟨h0, _⟩ | ⟨g', cap', cur, hv, _, hg, hn, hm, hs, ht⟩
  · cases h0
  · injection hv with e1 e2 e3
    simp only [Option.some.injEq, Addr.mk.injEq] at e1
    obtain ⟨rfl, _⟩ := e1
    subst e3
    refine ⟨cur, hg, by omega, by simpa using hn, hm, fun i hi => ?_⟩
    have hi' : i < n := by simpa using hi
    have h1 : (cur.toList.take (n * 1))[i]? = cur.toList[i]? := by rw [List.getElem?_take, if_pos (by omega)]
    rw [ht] at h1
    rw [← Array.getElem?_toList, ← h1, eI_lt (by simpa using hi')]
    simp [madeCells, hi', Value.cells, Nat.mod_one]
end

end Go.Proofs.Ytaafbdpdpndplaa
