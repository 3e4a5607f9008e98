/- What lies in memory while the program searches: distances, the queue, its box, and the defers of the ranges that are done. -/
import Derived.Test.YtafhpldcpgjpjaaQueue
namespace Go.Proofs.Ytafhpldcpgjpjaa
open Go.RowKit Go.Shelf

structure QM (w1 W : World) (zF gF bQ N i : Nat) (Ds : List Nat) (S : List Int × List Int) (gq oq cq lq : Nat) : Prop where
  far : Boxed W zF 44 (.slice (some ⟨gF, 0, none⟩) N N)
  queue : Boxed W bQ 44 (.slice (some ⟨gq, oq, none⟩) lq cq)
  ownF : OwnI W gF N S.1
  ownQ : OwnQ W gq oq cq (S.2.drop i)
  len : (S.2.drop i).length = lq
  ne : gq ≠ gF
  ge : w1.heap.size ≤ gq
  geF : w1.heap.size ≤ gF
  bne : bQ ≠ zF
  bge : w1.heap.size ≤ bQ
  col : ∀ D, D ∈ Ds → W.heap[D]? = some (.deferred (some [])) ∧ w1.heap.size ≤ D
  below : Below w1.heap.size w1 W

section
variable {w1 W W' : World} {zF gF bQ N i : Nat} {Ds : List Nat} {S : List Int × List Int} {gq oq cq lq : Nat}

theorem cells_ne {b r : Nat} {cur : Array Value} {t : TypeId} (hb : W.heap[b]? = some (.cells cur t (0, 0))) (hr : ∃ o : Obj, W.heap[r]? = some o ∧ o.isCells = false) : b ≠ r := fun e => by
  subst e
  obtain ⟨o, h1, h2⟩ := hr
  have e2 := Option.some.inj (hb.symm.trans h1)
  subst e2
  cases h2

theorem QM.grown (h : QM w1 W zF gF bQ N i Ds S gq oq cq lq) {row : Option Nat} (hg : W.grownBy W' row) (hrow : ∀ r, row = some r → w1.heap.size ≤ r ∧ (∃ o : Obj, W.heap[r]? = some o ∧ o.isCells = false) ∧ r ∉ Ds) : QM w1 W' zF gF bQ N i Ds S gq oq cq lq := by
  have hc : ∀ {b : Nat} {cur : Array Value} {t : TypeId}, W.heap[b]? = some (.cells cur t (0, 0)) → W'.heap[b]? = W.heap[b]? := fun {b cur t} hb => hg.block b (Array.getElem?_eq_some_iff.1 hb).1 (fun e => cells_ne hb (hrow b e.symm).2.1 rfl)
  refine ⟨(hc h.far).trans h.far, (hc h.queue).trans h.queue, ?_, ?_, h.len, h.ne, h.ge, h.geF, h.bne, h.bge, fun D hD => ?_, h.below.grown hg h.below.size (fun k e => (hrow k e).1)⟩
  · obtain ⟨cur, hcur, _⟩ := h.ownF
    exact h.ownF.keep (hc hcur)
  · obtain ⟨cur, hcur, _⟩ := h.ownQ
    exact h.ownQ.keep (hc hcur)
  · obtain ⟨h1, h2⟩ := h.col D hD
    exact ⟨(hg.block D (Array.getElem?_eq_some_iff.1 h1).1 (fun e => (hrow D e.symm).2.2 hD)).trans h1, h2⟩
theorem QM.alloc (h : QM w1 W zF gF bQ N i Ds S gq oq cq lq) (o : Obj) : QM w1 (W.alloc o) zF gF bQ N i Ds S gq oq cq lq := h.grown (World.grownBy_alloc W o none) (fun _ e => by cases e)
theorem QM.on (h : QM w1 W zF gF bQ N i Ds S gq oq cq lq) (hb : Below W.heap.size W W') : QM w1 W' zF gF bQ N i Ds S gq oq cq lq := h.grown (grown_below hb) (fun _ e => by cases e)
theorem QM.size (h : QM w1 W zF gF bQ N i Ds S gq oq cq lq) : w1.heap.size ≤ W.heap.size := h.below.size

theorem col_set {D b : Nat} {cur : Array Value} {t : TypeId} {j : Nat} {v : Value} (hb : W.heap[b]? = some (.cells cur t (0, 0))) (hD : W.heap[D]? = some (.deferred (some []))) : (W.setCell ⟨b, j, none⟩ v).heap[D]? = some (.deferred (some [])) := by
  refine (heap_setCell_other W ⟨b, j, none⟩ D v (fun e => ?_)).trans hD
  subst e
  have e2 := Option.some.inj (hb.symm.trans hD)
  cases e2

/-- A distance is written. -/
theorem QM.put (h : QM w1 W zF gF bQ N i Ds S gq oq cq lq) {k : Nat} (hk : k < S.1.length) (x : Int) : QM w1 (W.setCell ⟨gF, k, none⟩ (.int .i64 x)) zF gF bQ N i Ds (S.1.set k x, S.2) gq oq cq lq := by
  obtain ⟨cur, hcur, hr⟩ := h.ownF
  refine ⟨?_, ?_, OwnI.set h.ownF hk x, h.ownQ.far (by exact h.ne) _, h.len, h.ne, h.ge, h.geF, h.bne, h.bge, fun D hD => ⟨col_set hcur (h.col D hD).1, (h.col D hD).2⟩, h.below.setCell (p := ⟨gF, k, none⟩) h.geF _⟩
  · exact (heap_setCell_other W ⟨gF, k, none⟩ zF _ (h.ownF.ne h.far)).trans h.far
  · exact (heap_setCell_other W ⟨gF, k, none⟩ bQ _ (h.ownF.ne h.queue)).trans h.queue

/-- The queue has grown by a number, and its box holds the grown one. -/
theorem QM.push (h : QM w1 W zF gF bQ N i Ds S gq oq cq lq) (hi : i ≤ S.2.length) {y : Int} {g' o' c' : Nat} (hO : OwnQ W' g' o' c' (S.2.drop i ++ [y])) (hg : W.grownBy W' (some gq)) (hlie : g' = gq ∨ W.heap.size ≤ g') :
    QM w1 (W'.setCell ⟨bQ, 0, none⟩ (.slice (some ⟨g', o', none⟩) (lq + 1) c')) zF gF bQ N i Ds (S.1, S.2 ++ [y]) g' o' c' (lq + 1) := by
  have hdrop : (S.2 ++ [y]).drop i = S.2.drop i ++ [y] := List.drop_append_of_le_length hi
  obtain ⟨cq', hcq', _⟩ := h.ownQ
  have hQ' : Boxed W' bQ 44 (.slice (some ⟨gq, oq, none⟩) lq cq) := h.queue.kept hg (fun e => h.ownQ.ne h.queue (Option.some.inj e))
  have hF' : Boxed W' zF 44 (.slice (some ⟨gF, 0, none⟩) N N) := h.far.kept hg (fun e => h.ownQ.ne h.far (Option.some.inj e))
  have hoF := h.ownF.grown hg h.ne.symm
  have hgF := h.ownF.lt
  have hsz := h.size
  refine ⟨?_, hQ'.set _, ?_, ?_, by rw [hdrop, List.length_append, h.len]; rfl, ?_, ?_, h.geF, h.bne, h.bge, fun D hD => ⟨col_set hQ' ?_, (h.col D hD).2⟩, ?_⟩
  · exact (heap_setCell_other W' ⟨bQ, 0, none⟩ zF _ h.bne.symm).trans hF'
  · exact hoF.far (by exact (hoF.ne hQ').symm) _
  · rw [hdrop]
    exact hO.far (by exact (hO.ne hQ').symm) _
  · rcases hlie with e | e
    · rw [e]; exact h.ne
    · omega
  · rcases hlie with e | e
    · rw [e]; exact h.ge
    · omega
  · have h1 := (h.col D hD).1
    refine (hg.block D (Array.getElem?_eq_some_iff.1 h1).1 (fun e => ?_)).trans h1
    have e1 := Option.some.inj e
    subst e1
    have e2 := Option.some.inj (hcq'.symm.trans h1)
    cases e2
  · exact (h.below.grown hg h.size (fun k e => by cases e; exact h.ge)).setCell (p := ⟨bQ, 0, none⟩) h.bge _

theorem drop_cons {xs : List Int} {i l : Nat} (h : (xs.drop i).length = l + 1) : ∃ x, xs.drop i = x :: xs.drop (i + 1) := by
  cases hd : xs.drop i with
  | nil => rw [hd] at h; simp at h
  | cons x ys =>
    refine ⟨x, ?_⟩
    rw [← List.drop_drop, hd]
    rfl
theorem QM.cut (h : QM w1 W zF gF bQ N i Ds S gq oq cq lq) {l : Nat} (hl : lq = l + 1) : OwnQ W gq (oq + 1) (cq - 1) (S.2.drop (i + 1)) := by
  obtain ⟨x, hx⟩ := drop_cons (h.len.trans hl)
  have hQ := h.ownQ
  rw [hx] at hQ
  exact hQ.tail
theorem QM.cut0 (h : QM w1 W zF gF bQ N i Ds S gq oq cq lq) {l : Nat} (hl : lq = l + 1) (hc : cq - 1 = 0) : OwnQ W gq oq 0 (S.2.drop (i + 1)) ∧ l = 0 := by
  obtain ⟨cur, h1, h2, h3, _⟩ := h.ownQ
  have h4 := h.len
  have h5 : l = 0 := by omega
  have h6 : S.2.drop (i + 1) = [] := by
    refine List.eq_nil_of_length_eq_zero ?_
    rw [List.length_drop] at h4 ⊢
    omega
  rw [h6]
  exact ⟨⟨cur, h1, by omega, by simp, fun j hj => by simp at hj⟩, h5⟩
/-- The queue's box is made anew, and its first number is cut off. -/
theorem QM.next (h : QM w1 W zF gF bQ N i Ds S gq oq cq lq) {l o2 c2 : Nat} (hl : lq = l + 1) (hQ : OwnQ W gq o2 c2 (S.2.drop (i + 1))) :
    QM w1 (W.alloc (.cells #[.slice (some ⟨gq, o2, none⟩) l c2] 44)) zF gF W.heap.size N (i + 1) Ds S gq o2 c2 l := by
  have hA := h.alloc (.cells #[.slice (some ⟨gq, o2, none⟩) l c2] 44)
  have hzF := h.far.lt
  refine ⟨hA.far, Boxed.new W 44 _, hA.ownF, hQ.alloc _, ?_, h.ne, h.ge, h.geF, by omega, h.size, hA.col, hA.below⟩
  have := h.len
  rw [List.length_drop] at this ⊢
  omega
theorem QM.more (h : QM w1 W zF gF bQ N i Ds S gq oq cq lq) {D : Nat} (hD : W.heap[D]? = some (.deferred (some []))) (hz : w1.heap.size ≤ D) : QM w1 W zF gF bQ N i (D :: Ds) S gq oq cq lq := by
  refine ⟨h.far, h.queue, h.ownF, h.ownQ, h.len, h.ne, h.ge, h.geF, h.bne, h.bge, fun D' h' => ?_, h.below⟩
  rcases List.mem_cons.1 h' with rfl | h2
  · exact ⟨hD, hz⟩
  · exact h.col D' h2
end

end Go.Proofs.Ytafhpldcpgjpjaa
