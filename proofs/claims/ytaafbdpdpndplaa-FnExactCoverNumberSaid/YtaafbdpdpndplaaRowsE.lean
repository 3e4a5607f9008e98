/- Rows of edges that grow: the library's word for them and ours; marks. -/
import Derived.Test.YtaafbdpdpndplaaGraphs

/- Edges in their order: normal edges, the order of edges, and sorted lists. No program is named here. -/
namespace Go.Proofs.Ytaafbdpdpndplaa

def normE (e : Int × Int) : Int × Int := (min e.1 e.2, max e.1 e.2)
def leE (x y : Int × Int) : Bool := decide (¬ ltE y.1 y.2 x.1 x.2)
def sortE (es : List (Int × Int)) : List (Int × Int) := (es.map normE).mergeSort leE

theorem leE_trans (a b c : Int × Int) : leE a b → leE b c → leE a c := by
  unfold leE ltE
  simp
  omega
theorem leE_total (a b : Int × Int) : (leE a b || leE b a) = true := by
  unfold leE ltE
  simp
  omega

theorem sortE_pairwise (es : List (Int × Int)) : (sortE es).Pairwise (fun a b => leE a b = true) :=
  List.pairwise_mergeSort (fun a b c => leE_trans a b c) (fun a b => leE_total a b) _

theorem sortE_perm (es : List (Int × Int)) : (sortE es).Perm (es.map normE) := List.mergeSort_perm _ _

theorem sortE_length (es : List (Int × Int)) : (sortE es).length = es.length := by rw [(sortE_perm es).length_eq, List.length_map]

theorem inOrder_pairwise : ∀ (es : List (Int × Int)), InOrder es → es.Pairwise (fun a b => leE a b = true)
  | [], _ => List.Pairwise.nil
  | [a], _ => List.pairwise_singleton _ _
  | a :: b :: es, h => by
    have h2 : InOrder (b :: es) := fun i hi => by
      have h1 := h (i + 1) (by simpa using hi)
      refine ⟨by simpa [eA, eB] using h1.1, fun h0 => ?_⟩
      have h3 := h1.2 (by omega)
      obtain ⟨j, rfl⟩ : ∃ j, i = j + 1 := ⟨i - 1, by omega⟩
      simpa [eA, eB] using h3
    have ih := inOrder_pairwise (b :: es) h2
    have hab : leE a b = true := by
      have h1 := (h 1 (by simp)).2 (by omega)
      simpa [leE, eA, eB] using h1
    refine List.Pairwise.cons (fun c hc => ?_) ih
    rcases List.mem_cons.1 hc with rfl | hc
    · exact hab
    · exact leE_trans a b c hab ((List.pairwise_cons.1 ih).1 c hc)

theorem sortE_of_inOrder {es : List (Int × Int)} (h : InOrder es) : sortE es = es := by
  have h1 : es.map normE = es := by
    refine List.ext_getElem (by simp) fun i h1 h2 => ?_
    have := (h i h2).1
    rw [eA_lt h2, eB_lt h2] at this
    rw [List.getElem_map]
    unfold normE
    exact Prod.ext (Int.min_eq_left this) (Int.max_eq_right this)
  unfold sortE
  rw [h1]
  exact List.mergeSort_of_pairwise (inOrder_pairwise es h)

theorem inOrder_of_sortE {es : List (Int × Int)} (h : sortE es = es) : InOrder es := fun i hi => by
  have hm : ∀ e, e ∈ es → e.1 ≤ e.2 := fun e he => by
    rw [← h] at he
    obtain ⟨x, _, rfl⟩ := List.mem_map.1 ((sortE_perm es).mem_iff.1 he)
    unfold normE
    show min x.1 x.2 ≤ max x.1 x.2
    omega
  refine ⟨?_, fun h0 => ?_⟩
  · rw [eA_lt hi, eB_lt hi]
    exact hm _ (List.getElem_mem hi)
  · have hp := sortE_pairwise es
    rw [h] at hp
    have h1 := List.pairwise_iff_getElem.1 hp (i - 1) i (by omega) hi (by omega)
    rw [eA_lt hi, eB_lt hi, eA_lt (by omega), eB_lt (by omega)]
    simpa [leE] using h1

theorem sortE_beq (es : List (Int × Int)) : (sortE es == es) = decide (InOrder es) := by
  by_cases h : InOrder es
  · rw [decide_eq_true h, sortE_of_inOrder h]; simp
  · rw [decide_eq_false h]
    simp only [beq_eq_false_iff_ne, ne_eq]
    exact fun e => h (inOrder_of_sortE e)

theorem norm_at {es : List (Int × Int)} {k : Nat} (hk : k < es.length) : (es.map normE)[k]? = some (min (eA es k) (eB es k), max (eA es k) (eB es k)) := by
  rw [List.getElem?_map, pair_at hk, Option.map_some]
  rfl

end Go.Proofs.Ytaafbdpdpndplaa

namespace Go.Proofs.Ytaafbdpdpndplaa
open Go.RowKit

def edgeVals (es : List (Int × Int)) : List Value := es.flatMap fun e => [.int .i64 e.1, .int .i64 e.2]

theorem edgeVals_length (es : List (Int × Int)) : (edgeVals es).length = es.length * 2 := by
  induction es with
  | nil => rfl
  | cons e es ih => simp only [edgeVals, List.flatMap_cons, List.length_append, List.length_cons, List.length_nil] at *; omega

theorem edgeVals_at : ∀ (es : List (Int × Int)) (i : Nat), i < es.length → (edgeVals es)[i * 2]? = some (.int .i64 (eA es i)) ∧ (edgeVals es)[i * 2 + 1]? = some (.int .i64 (eB es i))
  | [], _, h => by simp at h
  | e :: es, 0, _ => by simp [edgeVals, eA, eB]
  | e :: es, i + 1, h => by
    have ih := edgeVals_at es i (by simpa using h)
    have h1 : (i + 1) * 2 = i * 2 + 1 + 1 := by omega
    have h2 : edgeVals (e :: es) = .int .i64 e.1 :: .int .i64 e.2 :: edgeVals es := rfl
    rw [h1, h2]
    simpa [eA, eB] using ih

theorem edgeVals_append (xs ys : List (Int × Int)) : edgeVals (xs ++ ys) = edgeVals xs ++ edgeVals ys := by simp [edgeVals]

theorem OwnE.of_row {w : World} {base g cap n : Nat} {es : List (Int × Int)} (h : w.ownsRow base 53 2 (.slice (some ⟨g, 0, none⟩) n cap) n (edgeVals es)) (hl : es.length = n) : OwnE w g cap es ∧ base ≤ g := by
  rcases h.2 with ⟨h0, _⟩ | ⟨g', cap', cur, hv, hb, hg, hn, hm, hs, ht⟩
  · cases h0
  · injection hv with e1 e2 e3
    simp only [Option.some.injEq, Addr.mk.injEq] at e1
    obtain ⟨rfl, _⟩ := e1
    subst e3
    refine ⟨⟨cur, hg, hs, by omega, hm, fun i hi => ?_⟩, hb⟩
    have key : ∀ j, j < n * 2 → cur[j]? = (edgeVals es)[j]? := fun j hj => by
      rw [← ht, List.getElem?_take, if_pos hj, Array.getElem?_toList]
    rw [key _ (by omega), key _ (by omega)]
    exact edgeVals_at es i hi

theorem OwnE.row {w : World} {base g cap n : Nat} {es : List (Int × Int)} (h : OwnE w g cap es) (hl : es.length = n) (hb : base ≤ g) : w.ownsRow base 53 2 (.slice (some ⟨g, 0, none⟩) n cap) n (edgeVals es) := by
  obtain ⟨cur, hg, hs, hle, hm, r⟩ := h
  refine ⟨by rw [edgeVals_length, hl], .inr ⟨g, cap, cur, rfl, hb, hg, by omega, hm, hs, ?_⟩⟩
  refine List.ext_getElem? fun j => ?_
  by_cases hj : j < n * 2
  · rw [List.getElem?_take, if_pos hj, Array.getElem?_toList]
    have h1 := r (j / 2) (by omega)
    have h2 := edgeVals_at es (j / 2) (by omega)
    rcases (by omega : j = j / 2 * 2 ∨ j = j / 2 * 2 + 1) with e | e
    · rw [e, h1.1, h2.1]
    · rw [e, h1.2, h2.2]
  · rw [List.getElem?_eq_none (by rw [List.length_take]; omega), List.getElem?_eq_none (by rw [edgeVals_length]; omega)]

/-- Sorted lists with the same members are one. -/
theorem sorted_unique {xs ys : List (Int × Int)} (hp : xs.Perm ys) (hx : xs.Pairwise (fun a b => leE a b = true)) (hy : ys.Pairwise (fun a b => leE a b = true)) : xs = ys := by
  refine hp.eq_of_pairwise ?_ hx hy
  intro a b _ _ h1 h2
  unfold leE ltE at h1 h2
  simp at h1 h2
  apply Prod.ext <;> omega

theorem insert_sorted {S : List (Int × Int)} {x y : Int} {a : Nat} (hs : S.Pairwise (fun a b => leE a b = true)) (ha : a ≤ S.length)
    (hge : ∀ j, a ≤ j → j < S.length → ltE x y (eA S j) (eB S j)) (hlt : 0 < a → ¬ ltE x y (eA S (a - 1)) (eB S (a - 1))) :
    (S.take a ++ (x, y) :: S.drop a).Pairwise (fun a b => leE a b = true) := by
  rw [List.pairwise_append]
  refine ⟨hs.sublist (List.take_sublist _ _), List.Pairwise.cons ?_ (hs.sublist (List.drop_sublist _ _)), ?_⟩
  · intro z hz
    obtain ⟨j, hj, rfl⟩ := List.getElem_of_mem hz
    rw [List.length_drop] at hj
    have h1 := hge (a + j) (by omega) (by omega)
    rw [eA_lt (by omega), eB_lt (by omega)] at h1
    rw [List.getElem_drop]
    unfold leE
    unfold ltE at *
    simp
    omega
  · intro u hu z hz
    obtain ⟨i, hi, rfl⟩ := List.getElem_of_mem hu
    rw [List.length_take] at hi
    rw [List.getElem_take]
    have hpw := List.pairwise_iff_getElem.1 hs
    have h2 : leE (S[i]'(by omega)) (x, y) = true := by
      have h1 := hlt (by omega)
      rw [eA_lt (by omega), eB_lt (by omega)] at h1
      have h3 : leE (S[a - 1]'(by omega)) (x, y) = true := by
        unfold leE
        simpa using h1
      rcases Nat.lt_or_ge i (a - 1) with h | h
      · exact leE_trans _ _ _ (hpw i (a - 1) (by omega) (by omega) h) h3
      · have : i = a - 1 := by omega
        subst this
        exact h3
    rcases List.mem_cons.1 hz with rfl | hz
    · exact h2
    · obtain ⟨j, hj, rfl⟩ := List.getElem_of_mem hz
      rw [List.length_drop] at hj
      rw [List.getElem_drop]
      exact hpw i (a + j) (by omega) (by omega) (by omega)

theorem sortE_insert {es : List (Int × Int)} {k a : Nat} {x y : Int} (hk : k < es.length) (ha : a ≤ k) (hx : x = min (eA es k) (eB es k)) (hy : y = max (eA es k) (eB es k))
    (hge : ∀ j, a ≤ j → j < k → ltE x y (eA (sortE (es.take k)) j) (eB (sortE (es.take k)) j))
    (hlt : 0 < a → ¬ ltE x y (eA (sortE (es.take k)) (a - 1)) (eB (sortE (es.take k)) (a - 1))) :
    (sortE (es.take k)).take a ++ (x, y) :: (sortE (es.take k)).drop a = sortE (es.take (k + 1)) := by
  have hl : (sortE (es.take k)).length = k := by rw [sortE_length, List.length_take]; omega
  refine sorted_unique ?_ (insert_sorted (sortE_pairwise _) (by omega) (fun j h1 h2 => hge j h1 (by omega)) hlt) (sortE_pairwise _)
  refine (List.perm_middle.trans ?_).trans (sortE_perm _).symm
  rw [List.take_append_drop, List.take_add_one, pair_at hk, List.map_append, hx, hy]
  refine (List.Perm.cons _ (sortE_perm _)).trans ?_
  exact (List.perm_append_singleton _ _).symm

/-- The numbers that the laws write over edges. -/
def marksE (k : Int) (n : Nat) : List (Int × Int) := (List.range n).map fun (i : Nat) => (k + 2 * (i : Int), k + 2 * (i : Int) + 1)
theorem marksE_length (k : Int) (n : Nat) : (marksE k n).length = n := by simp [marksE]
theorem marksE_at {k : Int} {n i : Nat} (h : i < n) : eA (marksE k n) i = k + 2 * i ∧ eB (marksE k n) i = k + 2 * i + 1 := by
  rw [eA_lt (by rw [marksE_length]; exact h), eB_lt (by rw [marksE_length]; exact h)]
  simp [marksE]
theorem marksE_step {k : Int} {n j : Nat} {es : List (Int × Int)} (hl : es.length = n) (hj : j < n) :
    (marksE k j ++ es.drop j).set j (k + 2 * j, k + 2 * j + 1) = marksE k (j + 1) ++ es.drop (j + 1) := by
  have h1 : (marksE k j).length = j := marksE_length k j
  rw [List.set_append, if_neg (by omega), h1, Nat.sub_self, List.drop_eq_getElem_cons (by omega), List.set_cons_zero]
  unfold marksE
  rw [List.range_succ, List.map_append]
  simp

theorem gset {w wr : World} {g : Nat} (h : w.grownBy wr (some g)) (j : Nat) (v : Value) : w.grownBy (wr.setCell ⟨g, j, none⟩ v) (some g) :=
  ⟨h.os, h.tape, h.output, by simpa [World.setCell] using h.size, fun k hk hne => (heap_setCell_other wr ⟨g, j, none⟩ k v (fun e => hne (congrArg some e))).trans (h.block k hk hne)⟩

/-- A sorted list with a gap at a place, in which the next one still stands (or the new one, at the end). -/
def shiftE (S : List (Int × Int)) (e : Int × Int) (a : Nat) : List (Int × Int) := S.take a ++ (S.drop a).headD e :: S.drop a
theorem shiftE_length {S : List (Int × Int)} {e : Int × Int} {a : Nat} (ha : a ≤ S.length) : (shiftE S e a).length = S.length + 1 := by
  unfold shiftE
  rw [List.length_append, List.length_cons, List.length_take, List.length_drop]
  omega
theorem shiftE_end (S : List (Int × Int)) (e : Int × Int) : shiftE S e S.length = S ++ [e] := by simp [shiftE]
theorem shiftE_read {S : List (Int × Int)} {e : Int × Int} {j : Nat} (hj : j + 1 ≤ S.length) : eA (shiftE S e (j + 1)) j = eA S j ∧ eB (shiftE S e (j + 1)) j = eB S j := by
  have h : (shiftE S e (j + 1))[j]? = S[j]? := by
    unfold shiftE
    rw [List.getElem?_append_left (by rw [List.length_take]; omega), List.getElem?_take, if_pos (by omega)]
  simp [eA, eB, List.getD_eq_getElem?_getD, h]
theorem shiftE_step {S : List (Int × Int)} {e : Int × Int} {j : Nat} (hj : j + 1 ≤ S.length) : (shiftE S e (j + 1)).set (j + 1) (eA S j, eB S j) = shiftE S e j := by
  have h1 : (S.take (j + 1)).length = j + 1 := by rw [List.length_take]; omega
  have h2 : S.drop j = (eA S j, eB S j) :: S.drop (j + 1) := by
    rw [List.drop_eq_getElem_cons (by omega : j < S.length), eA_lt (by omega), eB_lt (by omega)]
  unfold shiftE
  rw [List.set_append, if_neg (by omega), h1, Nat.sub_self, List.set_cons_zero, List.take_add_one, pair_at (by omega), h2]
  simp
theorem shiftE_put {S : List (Int × Int)} {e x : Int × Int} {a : Nat} (ha : a ≤ S.length) : (shiftE S e a).set a x = S.take a ++ x :: S.drop a := by
  have h1 : (S.take a).length = a := by rw [List.length_take]; omega
  unfold shiftE
  rw [List.set_append, if_neg (by omega), h1, Nat.sub_self, List.set_cons_zero]

theorem news_pair (w : World) (X Y : Int) (t : TypeId) (o : Obj) (g : Nat) (hg : g = w.heap.size + 1) :
    ∀ j u, [Value.int .i64 X, Value.int .i64 Y][j]? = some u → (((w.alloc o).alloc (.cells #[.int .i64 X, .int .i64 Y] t)).drew).cell? ((⟨g, 0, none⟩ : Addr).add j) = some u := fun j u hu => by
  subst hg
  have hadd : (⟨w.heap.size + 1, 0, none⟩ : Addr).add j = ⟨w.heap.size + 1, j, none⟩ := by unfold Addr.add; split <;> simp_all
  rw [hadd]
  have h := heap_alloc_new (w.alloc o) (.cells #[.int .i64 X, .int .i64 Y] t)
  rw [World.size_alloc] at h
  show ((w.alloc o).alloc (.cells #[.int .i64 X, .int .i64 Y] t)).cell? _ = _
  rw [cell_of_row _ _ j _ _ _ h]
  simpa using hu
theorem one_pair (X Y : Int) : ∀ u ∈ [Value.int .i64 X, Value.int .i64 Y], u.oneCell' = true := fun u hu => by
  simp at hu
  rcases hu with rfl | rfl <;> rfl

theorem row_start (w : World) (es : List (Int × Int)) : (w.alloc (.cells #[] 53)).ownsRow w.heap.size 53 2 (.slice (some ⟨w.heap.size, 0, none⟩) 0 0) 0 (edgeVals (sortE (es.take 0))) := by
  have h : edgeVals (sortE (es.take 0)) = [] := List.eq_nil_of_length_eq_zero (by rw [edgeVals_length, sortE_length]; simp)
  rw [h]
  exact World.ownsRow_made w #[] 0 (Nat.le_refl _) (by unfold maxLen; omega) rfl

theorem two_sets_cell {w : World} {g a b : Nat} {u v : Value} {p : Addr} (h : ¬ p.block = g) : ((w.setCell ⟨g, a, none⟩ u).setCell ⟨g, b, none⟩ v).cell? p = w.cell? p :=
  World.cell?_of_block (w := w) ((heap_setCell_other _ ⟨g, b, none⟩ _ _ h).trans (heap_setCell_other _ ⟨g, a, none⟩ _ _ h))

theorem sort_close {w : World} {g cap k a base : Nat} {es : List (Int × Int)} {X Y : Int} (h : OwnE w g cap (shiftE (sortE (es.take k)) (X, Y) a)) (hk : k < es.length) (ha : a ≤ k) (hb : base ≤ g)
    (hX : X = min (eA es k) (eB es k)) (hY : Y = max (eA es k) (eB es k)) (hge : ∀ j, a ≤ j → j < k → ltE X Y (eA (sortE (es.take k)) j) (eB (sortE (es.take k)) j))
    (hlt : 0 < a → ¬ ltE X Y (eA (sortE (es.take k)) (a - 1)) (eB (sortE (es.take k)) (a - 1))) :
    ((w.setCell ⟨g, a * 2, none⟩ (.int .i64 X)).setCell ⟨g, a * 2 + 1, none⟩ (.int .i64 Y)).ownsRow base 53 2 (.slice (some ⟨g, 0, none⟩) (k + 1) cap) (k + 1) (edgeVals (sortE (es.take (k + 1)))) := by
  have hl : (sortE (es.take k)).length = k := by rw [sortE_length, List.length_take]; omega
  refine OwnE.row ?_ (by rw [sortE_length, List.length_take]; omega) hb
  rw [← sortE_insert hk ha hX hY hge hlt, ← shiftE_put (e := (X, Y)) (by omega)]
  exact h.set (by rw [shiftE_length (by omega)]; omega) _ _

end Go.Proofs.Ytaafbdpdpndplaa
