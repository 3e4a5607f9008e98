/- What lies in memory while the matrix of the spanning trees is made, row after row. -/
import Derived.Test.YtbimllpfbgjajaaZrT
import Derived.Test.YtbimllpfbgjajaaDistM
namespace Go.Proofs.Ytbimllpfbgjajaa
open Go.RowKit Go.Shelf

attribute [local go_sem] Oper.semAt_some

structure FM (w2 W : World) (gq M K : Nat) (Ds : List Nat) (gf : Nat → Nat) (Mt : Nat → Nat → Int) : Prop where
  below : Below gq w2 W
  g7 : Boxed W (gq + 1) 55 (.slice (some ⟨gq, 0, none⟩) M M)
  head : ∃ cur, W.heap[gq]? = some (.cells cur 34 (0, 0)) ∧ cur.size = M ∧ ∀ i, i < K → cur[i]? = some (.slice (some ⟨gf i, 0, none⟩) M M)
  row : ∀ i, i < K → gq + 2 ≤ gf i ∧ OwnI W (gf i) M (rowT M (Mt i))
  apart : ∀ i j, i < K → j < K → i ≠ j → gf i ≠ gf j
  col : ∀ D, D ∈ Ds → W.heap[D]? = some (.deferred (some [])) ∧ gq + 2 ≤ D
  big : gq + 2 ≤ W.heap.size

section
variable {w2 W W' : World} {gq M K : Nat} {Ds : List Nat} {gf : Nat → Nat} {Mt : Nat → Nat → Int}

theorem FM.grown (h : FM w2 W gq M K Ds gf Mt) {r : Option Nat} (hg : W.grownBy W' r) (hrow : ∀ x, r = some x → gq + 2 ≤ x ∧ (∃ o : Obj, W.heap[x]? = some o ∧ o.isCells = false) ∧ x ∉ Ds) : FM w2 W' gq M K Ds gf Mt := by
  have hc : ∀ {b : Nat} {cur : Array Value} {t : TypeId}, W.heap[b]? = some (.cells cur t (0, 0)) → W'.heap[b]? = W.heap[b]? := fun {b cur t} hb => hg.block b (Array.getElem?_eq_some_iff.1 hb).1 (fun e => cells_ne hb (hrow b e.symm).2.1 rfl)
  refine ⟨h.below.grown hg (Nat.le_trans (by omega : gq ≤ gq + 2) h.big) (fun k e => by have := (hrow k e).1; omega), (hc h.g7).trans h.g7, ?_, fun i hi => ⟨(h.row i hi).1, ?_⟩, h.apart, fun D hD => ?_, Nat.le_trans h.big hg.size⟩
  · obtain ⟨cur, h1, h2⟩ := h.head
    exact ⟨cur, (hc h1).trans h1, h2⟩
  · obtain ⟨cur, hcur, _⟩ := (h.row i hi).2
    exact (h.row i hi).2.keep (hc hcur)
  · obtain ⟨h1, h2⟩ := h.col D hD
    exact ⟨(hg.block D (Array.getElem?_eq_some_iff.1 h1).1 (fun e => (hrow D e.symm).2.2 hD)).trans h1, h2⟩
theorem FM.alloc (h : FM w2 W gq M K Ds gf Mt) (o : Obj) : FM w2 (W.alloc o) gq M K Ds gf Mt := h.grown (World.grownBy_alloc W o none) (fun _ e => by cases e)
theorem FM.on (h : FM w2 W gq M K Ds gf Mt) (hb : Below W.heap.size W W') : FM w2 W' gq M K Ds gf Mt := h.grown (grown_below hb) (fun _ e => by cases e)
theorem FM.same (h : FM w2 W gq M K Ds gf Mt) (hk : W'.heap = W.heap) (hb : Below gq w2 W') : FM w2 W' gq M K Ds gf Mt :=
  ⟨hb, by have := h.g7; unfold Boxed at this ⊢; rw [hk]; exact this, by have := h.head; rw [hk]; exact this, fun i hi => ⟨(h.row i hi).1, (h.row i hi).2.keep (by rw [hk])⟩, h.apart, fun D hD => by rw [hk]; exact h.col D hD, by rw [hk]; exact h.big⟩
theorem FM.ext (h : FM w2 W gq M K Ds gf Mt) {Mt' : Nat → Nat → Int} (he : ∀ k l, k < K → l < M → Mt k l = Mt' k l) : FM w2 W gq M K Ds gf Mt' :=
  ⟨h.below, h.g7, h.head, fun i hi => ⟨(h.row i hi).1, by rw [← rowT_ext (he i · hi)]; exact (h.row i hi).2⟩, h.apart, h.col, h.big⟩
theorem FM.cell (h : FM w2 W gq M K Ds gf Mt) {i j : Nat} (hi : i < K) (hj : j < M) : W.cell? ⟨gf i, j, none⟩ = some (.int .i64 (Mt i j)) := by
  have h1 := (h.row i hi).2.reads j (by rw [rowT_len]; exact hj)
  rwa [Nat.zero_add, rowT_at hj] at h1
theorem FM.out (h : FM w2 W gq M K Ds gf Mt) {i : Nat} (hi : i < K) : W.cell? ⟨gq, i, none⟩ = some (.slice (some ⟨gf i, 0, none⟩) M M) := by
  obtain ⟨cur, h1, _, h3⟩ := h.head
  exact (cell_of_row W gq i cur _ _ h1).trans (h3 i hi)
theorem FM.free (h : FM w2 W gq M K Ds gf Mt) (j : Nat) : W.frozen? ⟨gq, j, none⟩ = false := by
  obtain ⟨cur, h1, _⟩ := h.head
  simp [World.frozen?, h1]
theorem FM.more (h : FM w2 W gq M K Ds gf Mt) {D : Nat} (hD : W.heap[D]? = some (.deferred (some []))) (hz : gq + 2 ≤ D) : FM w2 W gq M K (D :: Ds) gf Mt := by
  refine ⟨h.below, h.g7, h.head, h.row, h.apart, fun D' h' => ?_, h.big⟩
  rcases List.mem_cons.1 h' with rfl | h2
  · exact ⟨hD, hz⟩
  · exact h.col D' h2
theorem FM.any (h : FM w2 W gq M K Ds gf Mt) {j : Nat} (hj : j < M) : ∃ v, W.cell? ⟨gq, j, none⟩ = some v := by
  obtain ⟨cur, h1, h2, _⟩ := h.head
  exact ⟨_, (cell_of_row W gq j cur _ _ h1).trans (Array.getElem?_eq_getElem (by omega))⟩
/-- A number is written. -/
theorem FM.put (h : FM w2 W gq M K Ds gf Mt) {i j : Nat} (hi : i < K) (hj : j < M) (v : Int) : FM w2 (W.setCell ⟨gf i, j, none⟩ (.int .i64 v)) gq M K Ds gf (fun k l => if k = i ∧ l = j then v else Mt k l) := by
  obtain ⟨hg, cur, hcur, hr⟩ := h.row i hi
  have hother : ∀ b, b < gq + 2 → (W.setCell ⟨gf i, j, none⟩ (.int .i64 v)).heap[b]? = W.heap[b]? := fun b hb => heap_setCell_other W ⟨gf i, j, none⟩ b _ (by show b ≠ gf i; omega)
  refine ⟨h.below.setCell (p := ⟨gf i, j, none⟩) (by show gq ≤ gf i; omega) _, (hother _ (by omega)).trans h.g7, ?_, fun k hk => ⟨(h.row k hk).1, ?_⟩, h.apart, fun D hD => ⟨col_set hcur (h.col D hD).1, (h.col D hD).2⟩, by simpa [World.setCell] using h.big⟩
  · obtain ⟨c1, h1, h2⟩ := h.head
    exact ⟨c1, (hother _ (by omega)).trans h1, h2⟩
  · by_cases e : k = i
    · subst e
      have h1 := (h.row k hk).2.set (k := j) (by rw [rowT_len]; exact hj) v
      rw [rowT_set] at h1
      rwa [rowT_ext (g := fun l => if k = k ∧ l = j then v else Mt k l) (fun l _ => by simp)] at h1
    · have h1 := (h.row k hk).2.keep (heap_setCell_other W ⟨gf i, j, none⟩ (gf k) (.int .i64 v) (by show gf k ≠ gf i; exact h.apart k i hk hi e))
      rwa [rowT_ext (g := fun l => if k = i ∧ l = j then v else Mt k l) (fun l _ => by simp [e])] at h1
/-- A row of zeros is put into the matrix. -/
theorem FM.push (h : FM w2 W gq M K Ds gf Mt) {g : Nat} (hK : K < M) (ho : OwnI W g M (List.replicate M 0)) (hg : gq + 2 ≤ g) (hne : ∀ i, i < K → gf i ≠ g) : FM w2 (W.setCell ⟨gq, K, none⟩ (.slice (some ⟨g, 0, none⟩) M M)) gq M (K + 1) Ds (updN gf K g) (fun k l => if k = K then 0 else Mt k l) := by
  obtain ⟨cur, hcur, hsz, hcs⟩ := h.head
  have hother : ∀ b, b ≠ gq → (W.setCell ⟨gq, K, none⟩ (.slice (some ⟨g, 0, none⟩) M M)).heap[b]? = W.heap[b]? := fun b hb => heap_setCell_other W ⟨gq, K, none⟩ b _ (by show b ≠ gq; exact hb)
  refine ⟨h.below.setCell (p := ⟨gq, K, none⟩) (Nat.le_refl _) _, (hother _ (by omega)).trans h.g7, ?_, fun k hk => ?_, fun i j hi hj hij => ?_, fun D hD => ⟨col_set hcur (h.col D hD).1, (h.col D hD).2⟩, by simpa [World.setCell] using h.big⟩
  · refine ⟨cur.setIfInBounds K (.slice (some ⟨g, 0, none⟩) M M), ?_, by simpa using hsz, fun i hi => ?_⟩
    · simp [World.setCell, hcur, Array.getElem?_modify]
    · rw [Array.getElem?_setIfInBounds]
      unfold updN
      by_cases e : i = K
      · subst e
        rw [if_pos rfl, if_pos (by omega), if_pos rfl]
      · rw [if_neg (fun h => e h.symm), if_neg e]
        exact hcs i (by omega)
  · unfold updN
    by_cases e : k = K
    · rw [if_pos e]
      refine ⟨hg, ?_⟩
      rw [show rowT M (fun l => if k = K then 0 else Mt k l) = List.replicate M 0 by
        unfold rowT
        simp only [if_pos e, List.map_const', List.length_range]]
      exact ho.keep (hother _ (by omega))
    · rw [if_neg e]
      obtain ⟨h1, h2⟩ := h.row k (by omega)
      refine ⟨h1, ?_⟩
      rw [show rowT M (fun l => if k = K then 0 else Mt k l) = rowT M (Mt k) from rowT_ext fun l _ => by rw [if_neg e]]
      exact h2.keep (hother _ (by omega))
  · unfold updN
    by_cases e : i = K
    · rw [if_pos e, if_neg (by omega)]
      exact fun h => hne j (by omega) h.symm
    · rw [if_neg e]
      by_cases e2 : j = K
      · rw [if_pos e2]
        exact hne i (by omega)
      · rw [if_neg e2]
        exact h.apart i j (by omega) (by omega) hij
/-- The same, as the walk writes it: the row is made behind the store. -/
theorem FM.make (h : FM w2 W gq M K Ds gf Mt) {o : Obj} (hK : K < M) (hZ : ∀ W : World, OwnI (W.alloc o) W.heap.size M (List.replicate M 0)) :
    FM w2 ((W.setCell ⟨gq, K, none⟩ (.slice (some ⟨W.heap.size, 0, none⟩) M M)).alloc o) gq M (K + 1) Ds (updN gf K W.heap.size) (fun k l => if k = K then 0 else Mt k l) := by
  have hbig := h.big
  have hs : (W.setCell ⟨gq, K, none⟩ (.slice (some ⟨W.heap.size, 0, none⟩) M M)).heap.size = W.heap.size := by simp [World.setCell]
  have hz := hZ (W.setCell ⟨gq, K, none⟩ (.slice (some ⟨W.heap.size, 0, none⟩) M M))
  rw [hs] at hz
  have hlt : ∀ i, i < K → gf i < W.heap.size := fun i hi => (h.row i hi).2.lt
  have hother : ∀ b, b ≠ gq → b < W.heap.size → ((W.setCell ⟨gq, K, none⟩ (.slice (some ⟨W.heap.size, 0, none⟩) M M)).alloc o).heap[b]? = W.heap[b]? := fun b hb hb2 => (Below.heap_alloc _ _ _ (by rw [hs]; exact hb2)).trans (heap_setCell_other W ⟨gq, K, none⟩ b _ (by show b ≠ gq; exact hb))
  obtain ⟨cur, hcur, hsz, hcs⟩ := h.head
  refine ⟨(h.below.setCell (p := ⟨gq, K, none⟩) (Nat.le_refl _) _).alloc (by rw [hs]; omega) _, (hother _ (by omega) (by omega)).trans h.g7, ?_, fun k hk => ?_, fun i j hi hj hij => ?_, fun D hD => ?_, by rw [World.size_alloc, hs]; omega⟩
  · refine ⟨cur.setIfInBounds K (.slice (some ⟨W.heap.size, 0, none⟩) M M), ?_, by simpa using hsz, fun i hi => ?_⟩
    · refine (Below.heap_alloc _ _ _ (by rw [hs]; omega)).trans ?_
      simp [World.setCell, hcur, Array.getElem?_modify]
    · rw [Array.getElem?_setIfInBounds]
      unfold updN
      by_cases e : i = K
      · subst e
        rw [if_pos rfl, if_pos (by omega), if_pos rfl]
      · rw [if_neg (fun h => e h.symm), if_neg e]
        exact hcs i (by omega)
  · unfold updN
    by_cases e : k = K
    · rw [if_pos e]
      refine ⟨by omega, ?_⟩
      rw [show rowT M (fun l => if k = K then 0 else Mt k l) = List.replicate M 0 by
        unfold rowT
        simp only [if_pos e, List.map_const', List.length_range]]
      exact hz
    · rw [if_neg e]
      obtain ⟨h1, h2⟩ := h.row k (by omega)
      refine ⟨h1, ?_⟩
      rw [show rowT M (fun l => if k = K then 0 else Mt k l) = rowT M (Mt k) from rowT_ext fun l _ => by rw [if_neg e]]
      exact h2.keep (hother _ (by omega) h2.lt)
  · unfold updN
    by_cases e : i = K
    · rw [if_pos e, if_neg (by omega)]
      have := hlt j (by omega)
      omega
    · rw [if_neg e]
      by_cases e2 : j = K
      · rw [if_pos e2]
        have := hlt i (by omega)
        omega
      · rw [if_neg e2]
        exact h.apart i j (by omega) (by omega) hij
  · obtain ⟨h1, h2⟩ := h.col D hD
    exact ⟨(hother D (by omega) (Array.getElem?_eq_some_iff.1 h1).1).trans h1, h2⟩
theorem FM.mat (h : FM w2 W gq M M Ds gf Mt) {B : Nat} (hB : B ≤ gq) : MatAt W B M gq gf (fun _ => M) Mt :=
  ⟨fun _ hi => h.out hi, fun i hi => (h.row i hi).2, fun i hi => ⟨by have := (h.row i hi).1; omega, by have := (h.row i hi).1; omega⟩, h.apart⟩
end

end Go.Proofs.Ytbimllpfbgjajaa
