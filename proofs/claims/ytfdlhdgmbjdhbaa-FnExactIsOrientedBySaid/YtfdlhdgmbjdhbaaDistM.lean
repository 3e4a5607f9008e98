/- A queue of numbers in memory: a slice that is cut at its front and appended to; how a call is left that ranged over functions several times; and what lies in memory while the program searches. -/
import Derived.Test.YtfdlhdgmbjdhbaaPlain
import Derived.RangeFuncNested
import Derived.RangeFuncBound
import Derived.RangeFuncCalls
import Derived.RangeFuncLeaves
import Derived.RangeFuncWrites
import Derived.Shelf.RegionOpen
import Derived.Test.YtfdlhdgmbjdhbaaProg
import Derived.Test.YtfdlhdgmbjdhbaaIterB
import Derived.Test.YtfdlhdgmbjdhbaaOwnMore
import Derived.ArgAppend

/- Defers of ranges over functions inside a loop. -/
namespace Go.Proofs.Ytfdlhdgmbjdhbaa
open Go.RowKit Go.Shelf

/-- The defers of several ranges over functions, each done. -/
def colls (Ds : List Nat) : List Deferred := Ds.map fun D => { target := .collected D, args := #[] }
theorem leaves_colls {F : Fence} {n : Nat} {fn : Func} {tmps : Array Value} {R : Ending → World → Prop} {v : Value} (hv : ∀ w', (results fn tmps).run Try.prog w' = .ok v w') :
    ∀ (Ds : List Nat) (w : World), Ds.Nodup → (∀ D, D ∈ Ds → w.heap[D]? = some (.deferred (some []))) → (∀ w', w'.os = w.os → w'.tape = w.tape → w'.output = w.output → w'.heap.size = w.heap.size → (∀ k, k ∉ Ds → w'.heap[k]? = w.heap[k]?) → R (.returned v) w') →
    LeavesInM F n Try.prog fn tmps R (colls Ds) .returning w
  | [], w, _, _, hR => ⟨v, hv w, hR w rfl rfl rfl rfl (fun _ _ => rfl)⟩
  | D :: Ds, w, hn, hD, hR => by
    have hK := hD D (by simp)
    obtain ⟨hn1, hn2⟩ := List.nodup_cons.1 hn
    refine ⟨by simp, .inl ⟨D, _, rfl, run_takeDeferred hK, ?_⟩⟩
    refine leaves_colls hv Ds _ hn2 (fun D' h' => ?_) (fun w' h1 h2 h3 h4 h5 => ?_)
    · have hne : D' ≠ D := fun e => hn1 (e ▸ h')
      have h6 := hD D' (by simp [h'])
      simp only [World.putObj]
      rw [Array.getElem?_setIfInBounds, if_neg (fun e => hne e.symm)]
      exact h6
    · refine hR w' (by rw [h1]; rfl) (by rw [h2]; rfl) (by rw [h3]; rfl) (by rw [h4]; simp [World.putObj]) (fun k hk => ?_)
      rw [h5 k (fun h => hk (by simp [h]))]
      have hne : k ≠ D := fun e => hk (by simp [e])
      simp only [World.putObj]
      rw [Array.getElem?_setIfInBounds, if_neg (fun e => hne e.symm)]

end Go.Proofs.Ytfdlhdgmbjdhbaa

namespace Go.Proofs.Ytfdlhdgmbjdhbaa
open Go.RowKit Go.Shelf

/-- A slice from place o on of a block of the call's own, with room for cap numbers, the first of which are those of a list. -/
def OwnQ (w : World) (g o cap : Nat) (xs : List Int) : Prop :=
  ∃ cur, w.heap[g]? = some (.cells cur 2 (0, 0)) ∧ o + cap ≤ cur.size ∧ xs.length ≤ cap ∧ ∀ j, j < xs.length → cur[o + j]? = some (.int .i64 (eI xs j))

section
variable {w w' : World} {g o cap B : Nat} {xs : List Int}
theorem OwnQ.keep (h : OwnQ w g o cap xs) (hk : w'.heap[g]? = w.heap[g]?) : OwnQ w' g o cap xs := by
  obtain ⟨cur, hc, r⟩ := h
  exact ⟨cur, hk.trans hc, r⟩
theorem OwnQ.lt (h : OwnQ w g o cap xs) : g < w.heap.size := by
  obtain ⟨cur, hc, r⟩ := h
  exact (Array.getElem?_eq_some_iff.1 hc).1
theorem OwnQ.below (h : OwnQ w g o cap xs) (hb : Below B w w') (hl : g < B) : OwnQ w' g o cap xs := h.keep (hb.block g hl)
theorem OwnQ.on (h : OwnQ w g o cap xs) (hb : Below w.heap.size w w') : OwnQ w' g o cap xs := h.below hb h.lt
theorem OwnQ.alloc (h : OwnQ w g o cap xs) (ob : Obj) : OwnQ (w.alloc ob) g o cap xs := h.on ((Below.refl _ _).alloc (Nat.le_refl _) ob)
theorem OwnQ.far (h : OwnQ w g o cap xs) {a : Addr} (ha : g ≠ a.block) (v : Value) : OwnQ (w.setCell a v) g o cap xs := h.keep (heap_setCell_other w a g v ha)
theorem OwnQ.cell (h : OwnQ w g o cap xs) {j : Nat} (hj : j < xs.length) : w.cell? ⟨g, o + j, none⟩ = some (.int .i64 (eI xs j)) := by
  obtain ⟨cur, hc, _, _, r⟩ := h
  rw [cell_of_row w g _ cur _ _ hc]
  exact r j hj
theorem OwnQ.le (h : OwnQ w g o cap xs) : xs.length ≤ cap := by
  obtain ⟨cur, _, _, r, _⟩ := h
  exact r
theorem OwnQ.tail {x : Int} (h : OwnQ w g o cap (x :: xs)) : OwnQ w g (o + 1) (cap - 1) xs := by
  obtain ⟨cur, hc, h1, h2, r⟩ := h
  simp only [List.length_cons] at h2 r
  refine ⟨cur, hc, by omega, by omega, fun j hj => ?_⟩
  have := r (j + 1) (by omega)
  rw [show o + 1 + j = o + (j + 1) by omega, this]
  rfl
theorem OwnI.queue (h : OwnI w g cap xs) : OwnQ w g 0 cap xs := by
  obtain ⟨cur, hc, h1, h2, h3, r⟩ := h
  exact ⟨cur, hc, by omega, h2, fun j hj => by rw [Nat.zero_add]; exact r j hj⟩
/-- A box of slices is no row of numbers. -/
theorem boxed_ne_row {b : Nat} {u : Value} {cur : Array Value} (h : Boxed w b 41 u) (hg : w.heap[g]? = some (.cells cur 2 (0, 0))) : b ≠ g := fun e => by
  subst e
  rw [show w.heap[b]? = _ from h] at hg
  injection hg with hg
  injection hg with _ h2
  exact absurd h2 (by decide)
theorem OwnQ.ne (h : OwnQ w g o cap xs) {b : Nat} {u : Value} (hb : Boxed w b 41 u) : b ≠ g := by
  obtain ⟨cur, hc, _⟩ := h
  exact boxed_ne_row hb hc
theorem OwnI.ne (h : OwnI w g cap xs) {b : Nat} {u : Value} (hb : Boxed w b 41 u) : b ≠ g := by
  obtain ⟨cur, hc, _⟩ := h
  exact boxed_ne_row hb hc

theorem run_queue_append (i : TypeInfo) (hi : Try.prog.info? 2 = some i) (hz : i.zero = some (.int .i64 0)) (hsize : i.size = 1) (hby : i.bytes = 8) (ty : TypeId)
    (n : Nat) (hn : xs.length = n) (hn63 : n ≤ 1000) (h : OwnQ w g o cap xs) (x : Int) (ad : Addr) (hx : w.cell? ad = some (.int .i64 x)) (c : Nat) :
    ∃ g' o' cap' w', (Builtin.append_ #[41, 41] ty #[.slice (some ⟨g, o, none⟩) n cap, .slice (some ad) 1 c]).run Try.prog w = .ok (.slice (some ⟨g', o', none⟩) (n + 1) cap') w' ∧ OwnQ w' g' o' cap' (xs ++ [x]) ∧ w.grownBy w' (some g) ∧ (g' = g ∨ w.heap.size ≤ g') ∧ KeepsOthers w w' := by
  have hnews : ∀ j u, [Value.int .i64 x][j]? = some u → w.cell? (ad.add j) = some u := fun j u hu => by
    rcases j with _ | j
    · simp at hu
      subst hu
      simpa [Addr.add] using hx
    · simp at hu
  obtain ⟨cur, hc, h1, h2, r⟩ := h
  by_cases hroom : n + 1 ≤ cap
  · have hin : o + n < cur.size := by omega
    have hrun := run_append_room_cells (P := Try.prog) (w := w) 41 ty 2 i Try.underlying41 hi g o n cap ad 1 c [.int .i64 x] (by rw [hsize]; rfl) hnews (by simp [Value.oneCell']) hroom
      (fun j hj => by
        obtain rfl : j = 0 := by simpa using hj
        rw [hsize, cell_of_row w g _ cur _ _ hc, Nat.mul_one, Nat.add_zero, Array.getElem?_eq_getElem hin]
        rfl)
      (fun j hj => by rw [frozen_of_row w g _ cur _ hc])
    rw [hsize, Nat.mul_one] at hrun
    have hset : (w.setCells g (o + n) [.int .i64 x]) = w.setCell ⟨g, o + n, none⟩ (.int .i64 x) := rfl
    rw [hset] at hrun
    refine ⟨g, o, cap, _, hrun, ⟨_, heap_setCell_same _ _ _ _ _ _ hc, by simpa using h1, by rw [List.length_append]; simp; omega, fun j hj => ?_⟩, ?_, .inl rfl, ?_⟩
    · rw [List.length_append] at hj
      rw [Array.getElem?_setIfInBounds]
      by_cases e : o + n = o + j
      · obtain rfl : j = n := by omega
        rw [if_pos rfl, if_pos (by omega)]
        subst hn
        rw [eI_last]
      · have hj' : j < xs.length := by simp at hj; omega
        rw [if_neg e, r j hj', eI_append hj']
    · exact gset (⟨rfl, rfl, rfl, Nat.le_refl _, fun _ _ _ => rfl⟩ : w.grownBy w (some g)) (o + n) (.int .i64 x)
    · exact ⟨by simp [World.setCell], fun k ob hk hob => by
        by_cases e : k = g
        · subst e
          have e2 := Option.some.inj (hc.symm.trans hk)
          subst e2
          cases hob
        · exact (heap_setCell_other w ⟨g, o + n, none⟩ k _ e).trans hk⟩
  · have hcn : cap = n := by omega
    obtain ⟨v', w', hrun, r1, r2⟩ := run_append_arg_grows (P := Try.prog) (w := w) 41 ty 2 i (.int .i64 0) 1 8 Try.underlying41 hi hz hsize hby rfl (by decide) ⟨g, o, none⟩ n cap (intVals xs) (by rw [intVals_length]; omega)
      (fun j u hu => by
        have hj : j < xs.length := by
          have := (List.getElem?_eq_some_iff.1 hu).1
          rwa [intVals_length] at this
        rw [intVals_at hj] at hu
        have e2 := Option.some.inj hu
        subst e2
        have := cell_of_row w g (o + j) cur _ _ hc
        rw [r j hj] at this
        cases j
        · simpa [Addr.add] using this
        · simpa [Addr.add] using this)
      ad 1 c [.int .i64 x] rfl hnews (by omega) (by unfold maxLen; omega) (by omega)
    have r1' : w'.ownsRow w.heap.size 2 1 v' (n + 1) (intVals (xs ++ [x])) := by rw [intVals_append]; exact r1
    rcases r1'.2 with ⟨_, h0⟩ | ⟨g', cap', cur', hv, hb, _⟩
    · omega
    · subst hv
      have hO := (OwnI.of_row r1' (by rw [List.length_append]; simp; omega)).1
      exact ⟨g', 0, cap', w', hrun, hO.queue, ⟨r2.os, r2.tape, r2.output, r2.size, fun k hk _ => r2.block k hk (by simp)⟩, .inr hb, ⟨r2.size, fun k ob hk _ => (r2.block k (Array.getElem?_eq_some_iff.1 hk).1 (by simp)).trans hk⟩⟩

theorem wpListIn_append_queue {F : Fence} {n : Nat} {ops : Array Oper} {rest : List Oper} {oo : Oper} {a : Act} {Q : Exit → Act → World → Prop} (hg : oo.guard = none) (s x : Operand)
    (hop : oo.op = Op.call { callee := Callee.builtin Builtin.append, args := #[s, x], argTypes := #[41, 41] }) (i : TypeInfo) (hi : Try.prog.info? 2 = some i) (hz : i.zero = some (.int .i64 0)) (hsize : i.size = 1) (hby : i.bytes = 8)
    (m : Nat) (hm : xs.length = m) (hm63 : m ≤ 1000) (h : OwnQ w g o cap xs) (hs : a.eval s = .slice (some ⟨g, o, none⟩) m cap) (y : Int) (ad : Addr) (hy : w.cell? ad = some (.int .i64 y)) (c : Nat) (hx : a.eval x = .slice (some ad) 1 c)
    (hK : ∀ g' o' cap' w', OwnQ w' g' o' cap' (xs ++ [y]) → w.grownBy w' (some g) → (g' = g ∨ w.heap.size ≤ g') → KeepsOthers w w' → wpListIn F n Try.prog ops Q rest (a.put oo.dst (.slice (some ⟨g', o', none⟩) (m + 1) cap')) w') :
    wpListIn F n Try.prog ops Q (oo :: rest) a w := by
  refine wpListIn_plain hg fun K hK' => ?_
  obtain ⟨g', o', cap', w', hrun, r1, r2, r3, r4⟩ := run_queue_append i hi hz hsize hby oo.type m hm hm63 h y ad hy c
  unfold Oper.wpIn
  refine ⟨?_, ?_⟩
  · simp [Oper.about, hop, resolve, Target.leads, Sem.run_pure]
  · rw [Oper.semAt_plain F _ _ (by rw [hop]; intro c hc'; cases hc')]
    simp [execOp, hop, resolve, invoke, builtin, hs, hx, hrun, Result.andThen]
    exact hK' _ _ (hK g' o' cap' w' r1 r2 r3 r4)
end

structure QM (w1 W : World) (zF gF bQ N i : Nat) (Ds : List Nat) (S : List Int × List Int) (gq oq cq lq : Nat) : Prop where
  far : Boxed W zF 41 (.slice (some ⟨gF, 0, none⟩) N N)
  queue : Boxed W bQ 41 (.slice (some ⟨gq, oq, none⟩) lq cq)
  ownF : OwnI W gF N S.1
  ownQ : OwnQ W gq oq cq (S.2.drop i)
  len : (S.2.drop i).length = lq
  ne : gq ≠ gF
  ge : w1.heap.size ≤ gq
  geF : w1.heap.size ≤ gF
  bne : bQ ≠ zF
  bge : w1.heap.size ≤ bQ
  col : ∀ D, D ∈ Ds → W.heap[D]? = some (.deferred (some [])) ∧ w1.heap.size ≤ D
  below : Below w1.heap.size w1 W

section
variable {w1 W W' : World} {zF gF bQ N i : Nat} {Ds : List Nat} {S : List Int × List Int} {gq oq cq lq : Nat}

theorem cells_ne {b r : Nat} {cur : Array Value} {t : TypeId} (hb : W.heap[b]? = some (.cells cur t (0, 0))) (hr : ∃ o : Obj, W.heap[r]? = some o ∧ o.isCells = false) : b ≠ r := fun e => by
  subst e
  obtain ⟨o, h1, h2⟩ := hr
  have e2 := Option.some.inj (hb.symm.trans h1)
  subst e2
  cases h2

theorem QM.grown (h : QM w1 W zF gF bQ N i Ds S gq oq cq lq) {row : Option Nat} (hg : W.grownBy W' row) (hrow : ∀ r, row = some r → w1.heap.size ≤ r ∧ (∃ o : Obj, W.heap[r]? = some o ∧ o.isCells = false) ∧ r ∉ Ds) : QM w1 W' zF gF bQ N i Ds S gq oq cq lq := by
  have hc : ∀ {b : Nat} {cur : Array Value} {t : TypeId}, W.heap[b]? = some (.cells cur t (0, 0)) → W'.heap[b]? = W.heap[b]? := fun {b cur t} hb => hg.block b (Array.getElem?_eq_some_iff.1 hb).1 (fun e => cells_ne hb (hrow b e.symm).2.1 rfl)
  refine ⟨(hc h.far).trans h.far, (hc h.queue).trans h.queue, ?_, ?_, h.len, h.ne, h.ge, h.geF, h.bne, h.bge, fun D hD => ?_, h.below.grown hg h.below.size (fun k e => (hrow k e).1)⟩
  · obtain ⟨cur, hcur, _⟩ := h.ownF
    exact h.ownF.keep (hc hcur)
  · obtain ⟨cur, hcur, _⟩ := h.ownQ
    exact h.ownQ.keep (hc hcur)
  · obtain ⟨h1, h2⟩ := h.col D hD
    exact ⟨(hg.block D (Array.getElem?_eq_some_iff.1 h1).1 (fun e => (hrow D e.symm).2.2 hD)).trans h1, h2⟩
theorem QM.alloc (h : QM w1 W zF gF bQ N i Ds S gq oq cq lq) (o : Obj) : QM w1 (W.alloc o) zF gF bQ N i Ds S gq oq cq lq := h.grown (World.grownBy_alloc W o none) (fun _ e => by cases e)
theorem QM.on (h : QM w1 W zF gF bQ N i Ds S gq oq cq lq) (hb : Below W.heap.size W W') : QM w1 W' zF gF bQ N i Ds S gq oq cq lq := h.grown (grown_below hb) (fun _ e => by cases e)
theorem QM.size (h : QM w1 W zF gF bQ N i Ds S gq oq cq lq) : w1.heap.size ≤ W.heap.size := h.below.size

theorem col_set {D b : Nat} {cur : Array Value} {t : TypeId} {j : Nat} {v : Value} (hb : W.heap[b]? = some (.cells cur t (0, 0))) (hD : W.heap[D]? = some (.deferred (some []))) : (W.setCell ⟨b, j, none⟩ v).heap[D]? = some (.deferred (some [])) := by
  refine (heap_setCell_other W ⟨b, j, none⟩ D v (fun e => ?_)).trans hD
  subst e
  have e2 := Option.some.inj (hb.symm.trans hD)
  cases e2

/-- A distance is written. -/
theorem QM.put (h : QM w1 W zF gF bQ N i Ds S gq oq cq lq) {k : Nat} (hk : k < S.1.length) (x : Int) : QM w1 (W.setCell ⟨gF, k, none⟩ (.int .i64 x)) zF gF bQ N i Ds (S.1.set k x, S.2) gq oq cq lq := by
  obtain ⟨cur, hcur, hr⟩ := h.ownF
  refine ⟨?_, ?_, OwnI.set h.ownF hk x, h.ownQ.far (by exact h.ne) _, h.len, h.ne, h.ge, h.geF, h.bne, h.bge, fun D hD => ⟨col_set hcur (h.col D hD).1, (h.col D hD).2⟩, h.below.setCell (p := ⟨gF, k, none⟩) h.geF _⟩
  · exact (heap_setCell_other W ⟨gF, k, none⟩ zF _ (h.ownF.ne h.far)).trans h.far
  · exact (heap_setCell_other W ⟨gF, k, none⟩ bQ _ (h.ownF.ne h.queue)).trans h.queue

/-- The queue has grown by a number, and its box holds the grown one. -/
theorem QM.push (h : QM w1 W zF gF bQ N i Ds S gq oq cq lq) (hi : i ≤ S.2.length) {y : Int} {g' o' c' : Nat} (hO : OwnQ W' g' o' c' (S.2.drop i ++ [y])) (hg : W.grownBy W' (some gq)) (hlie : g' = gq ∨ W.heap.size ≤ g') :
    QM w1 (W'.setCell ⟨bQ, 0, none⟩ (.slice (some ⟨g', o', none⟩) (lq + 1) c')) zF gF bQ N i Ds (S.1, S.2 ++ [y]) g' o' c' (lq + 1) := by
  have hdrop : (S.2 ++ [y]).drop i = S.2.drop i ++ [y] := List.drop_append_of_le_length hi
  obtain ⟨cq', hcq', _⟩ := h.ownQ
  have hQ' : Boxed W' bQ 41 (.slice (some ⟨gq, oq, none⟩) lq cq) := h.queue.kept hg (fun e => h.ownQ.ne h.queue (Option.some.inj e))
  have hF' : Boxed W' zF 41 (.slice (some ⟨gF, 0, none⟩) N N) := h.far.kept hg (fun e => h.ownQ.ne h.far (Option.some.inj e))
  have hoF := h.ownF.grown hg h.ne.symm
  have hgF := h.ownF.lt
  have hsz := h.size
  refine ⟨?_, hQ'.set _, ?_, ?_, by rw [hdrop, List.length_append, h.len]; rfl, ?_, ?_, h.geF, h.bne, h.bge, fun D hD => ⟨col_set hQ' ?_, (h.col D hD).2⟩, ?_⟩
  · exact (heap_setCell_other W' ⟨bQ, 0, none⟩ zF _ h.bne.symm).trans hF'
  · exact hoF.far (by exact (hoF.ne hQ').symm) _
  · rw [hdrop]
    exact hO.far (by exact (hO.ne hQ').symm) _
  · rcases hlie with e | e
    · rw [e]; exact h.ne
    · omega
  · rcases hlie with e | e
    · rw [e]; exact h.ge
    · omega
  · have h1 := (h.col D hD).1
    refine (hg.block D (Array.getElem?_eq_some_iff.1 h1).1 (fun e => ?_)).trans h1
    have e1 := Option.some.inj e
    subst e1
    have e2 := Option.some.inj (hcq'.symm.trans h1)
    cases e2
  · exact (h.below.grown hg h.size (fun k e => by cases e; exact h.ge)).setCell (p := ⟨bQ, 0, none⟩) h.bge _

theorem drop_cons {xs : List Int} {i l : Nat} (h : (xs.drop i).length = l + 1) : ∃ x, xs.drop i = x :: xs.drop (i + 1) := by
  cases hd : xs.drop i with
  | nil => rw [hd] at h; simp at h
  | cons x ys =>
    refine ⟨x, ?_⟩
    rw [← List.drop_drop, hd]
    rfl
theorem QM.cut (h : QM w1 W zF gF bQ N i Ds S gq oq cq lq) {l : Nat} (hl : lq = l + 1) : OwnQ W gq (oq + 1) (cq - 1) (S.2.drop (i + 1)) := by
  obtain ⟨x, hx⟩ := drop_cons (h.len.trans hl)
  have hQ := h.ownQ
  rw [hx] at hQ
  exact hQ.tail
theorem QM.cut0 (h : QM w1 W zF gF bQ N i Ds S gq oq cq lq) {l : Nat} (hl : lq = l + 1) (hc : cq - 1 = 0) : OwnQ W gq oq 0 (S.2.drop (i + 1)) ∧ l = 0 := by
  obtain ⟨cur, h1, h2, h3, _⟩ := h.ownQ
  have h4 := h.len
  have h5 : l = 0 := by omega
  have h6 : S.2.drop (i + 1) = [] := by
    refine List.eq_nil_of_length_eq_zero ?_
    rw [List.length_drop] at h4 ⊢
    omega
  rw [h6]
  exact ⟨⟨cur, h1, by omega, by simp, fun j hj => by simp at hj⟩, h5⟩
/-- The queue's box is made anew, and its first number is cut off. -/
theorem QM.next (h : QM w1 W zF gF bQ N i Ds S gq oq cq lq) {l o2 c2 : Nat} (hl : lq = l + 1) (hQ : OwnQ W gq o2 c2 (S.2.drop (i + 1))) :
    QM w1 (W.alloc (.cells #[.slice (some ⟨gq, o2, none⟩) l c2] 41)) zF gF W.heap.size N (i + 1) Ds S gq o2 c2 l := by
  have hA := h.alloc (.cells #[.slice (some ⟨gq, o2, none⟩) l c2] 41)
  have hzF := h.far.lt
  refine ⟨hA.far, Boxed.new W 41 _, hA.ownF, hQ.alloc _, ?_, h.ne, h.ge, h.geF, by omega, h.size, hA.col, hA.below⟩
  have := h.len
  rw [List.length_drop] at this ⊢
  omega
theorem QM.more (h : QM w1 W zF gF bQ N i Ds S gq oq cq lq) {D : Nat} (hD : W.heap[D]? = some (.deferred (some []))) (hz : w1.heap.size ≤ D) : QM w1 W zF gF bQ N i (D :: Ds) S gq oq cq lq := by
  refine ⟨h.far, h.queue, h.ownF, h.ownQ, h.len, h.ne, h.ge, h.geF, h.bne, h.bge, fun D' h' => ?_, h.below⟩
  rcases List.mem_cons.1 h' with rfl | h2
  · exact ⟨hD, hz⟩
  · exact h.col D' h2
end

end Go.Proofs.Ytfdlhdgmbjdhbaa
