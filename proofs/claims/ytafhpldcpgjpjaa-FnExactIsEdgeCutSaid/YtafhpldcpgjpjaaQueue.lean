/- A queue of numbers in memory: a slice that is cut at its front and appended to; and how a call is left that ranged over functions several times. -/
import Derived.Test.YtafhpldcpgjpjaaIterB
import Derived.Test.YtafhpldcpgjpjaaOwnMore
import Derived.ArgAppend
namespace Go.Proofs.Ytafhpldcpgjpjaa
open Go.RowKit Go.Shelf

/-- A slice from place o on of a block of the call's own, with room for cap numbers, the first of which are those of a list. -/
def OwnQ (w : World) (g o cap : Nat) (xs : List Int) : Prop :=
  ∃ cur, w.heap[g]? = some (.cells cur 2 (0, 0)) ∧ o + cap ≤ cur.size ∧ xs.length ≤ cap ∧ ∀ j, j < xs.length → cur[o + j]? = some (.int .i64 (eI xs j))

section
variable {w w' : World} {g o cap B : Nat} {xs : List Int}
theorem OwnQ.keep (h : OwnQ w g o cap xs) (hk : w'.heap[g]? = w.heap[g]?) : OwnQ w' g o cap xs := by
  obtain ⟨cur, hc, r⟩ := h
  exact ⟨cur, hk.trans hc, r⟩
theorem OwnQ.lt (h : OwnQ w g o cap xs) : g < w.heap.size := by
  obtain ⟨cur, hc, r⟩ := h
  exact (Array.getElem?_eq_some_iff.1 hc).1
theorem OwnQ.below (h : OwnQ w g o cap xs) (hb : Below B w w') (hl : g < B) : OwnQ w' g o cap xs := h.keep (hb.block g hl)
theorem OwnQ.on (h : OwnQ w g o cap xs) (hb : Below w.heap.size w w') : OwnQ w' g o cap xs := h.below hb h.lt
theorem OwnQ.alloc (h : OwnQ w g o cap xs) (ob : Obj) : OwnQ (w.alloc ob) g o cap xs := h.on ((Below.refl _ _).alloc (Nat.le_refl _) ob)
theorem OwnQ.far (h : OwnQ w g o cap xs) {a : Addr} (ha : g ≠ a.block) (v : Value) : OwnQ (w.setCell a v) g o cap xs := h.keep (heap_setCell_other w a g v ha)
theorem OwnQ.cell (h : OwnQ w g o cap xs) {j : Nat} (hj : j < xs.length) : w.cell? ⟨g, o + j, none⟩ = some (.int .i64 (eI xs j)) := by
  obtain ⟨cur, hc, _, _, r⟩ := h
  rw [cell_of_row w g _ cur _ _ hc]
  exact r j hj
theorem OwnQ.le (h : OwnQ w g o cap xs) : xs.length ≤ cap := by
  obtain ⟨cur, _, _, r, _⟩ := h
  exact r
theorem OwnQ.tail {x : Int} (h : OwnQ w g o cap (x :: xs)) : OwnQ w g (o + 1) (cap - 1) xs := by
  obtain ⟨cur, hc, h1, h2, r⟩ := h
  simp only [List.length_cons] at h2 r
  refine ⟨cur, hc, by omega, by omega, fun j hj => ?_⟩
  have := r (j + 1) (by omega)
  rw [show o + 1 + j = o + (j + 1) by omega, this]
  rfl
theorem OwnI.queue (h : OwnI w g cap xs) : OwnQ w g 0 cap xs := by
  obtain ⟨cur, hc, h1, h2, h3, r⟩ := h
  exact ⟨cur, hc, by omega, h2, fun j hj => by rw [Nat.zero_add]; exact r j hj⟩
/-- A box of slices is no row of numbers. -/
theorem boxed_ne_row {b : Nat} {u : Value} {cur : Array Value} (h : Boxed w b 44 u) (hg : w.heap[g]? = some (.cells cur 2 (0, 0))) : b ≠ g := fun e => by
  subst e
  rw [show w.heap[b]? = _ from h] at hg
  injection hg with hg
  injection hg with _ h2
  exact absurd h2 (by decide)
theorem OwnQ.ne (h : OwnQ w g o cap xs) {b : Nat} {u : Value} (hb : Boxed w b 44 u) : b ≠ g := by
  obtain ⟨cur, hc, _⟩ := h
  exact boxed_ne_row hb hc
theorem OwnI.ne (h : OwnI w g cap xs) {b : Nat} {u : Value} (hb : Boxed w b 44 u) : b ≠ g := by
  obtain ⟨cur, hc, _⟩ := h
  exact boxed_ne_row hb hc

theorem run_queue_append (i : TypeInfo) (hi : Try.prog.info? 2 = some i) (hz : i.zero = some (.int .i64 0)) (hsize : i.size = 1) (hby : i.bytes = 8) (ty : TypeId)
    (n : Nat) (hn : xs.length = n) (hn63 : n ≤ 1000) (h : OwnQ w g o cap xs) (x : Int) (ad : Addr) (hx : w.cell? ad = some (.int .i64 x)) (c : Nat) :
    ∃ g' o' cap' w', (Builtin.append_ #[44, 44] ty #[.slice (some ⟨g, o, none⟩) n cap, .slice (some ad) 1 c]).run Try.prog w = .ok (.slice (some ⟨g', o', none⟩) (n + 1) cap') w' ∧ OwnQ w' g' o' cap' (xs ++ [x]) ∧ w.grownBy w' (some g) ∧ (g' = g ∨ w.heap.size ≤ g') ∧ KeepsOthers w w' := by
  have hnews : ∀ j u, [Value.int .i64 x][j]? = some u → w.cell? (ad.add j) = some u := fun j u hu => by
    rcases j with _ | j
    · simp at hu
      subst hu
      simpa [Addr.add] using hx
    · simp at hu
  obtain ⟨cur, hc, h1, h2, r⟩ := h
  by_cases hroom : n + 1 ≤ cap
  · have hin : o + n < cur.size := by omega
    have hrun := run_append_room_cells (P := Try.prog) (w := w) 44 ty 2 i Try.underlying44 hi g o n cap ad 1 c [.int .i64 x] (by rw [hsize]; rfl) hnews (by simp [Value.oneCell']) hroom
      (fun j hj => by
        obtain rfl : j = 0 := by simpa using hj
        rw [hsize, cell_of_row w g _ cur _ _ hc, Nat.mul_one, Nat.add_zero, Array.getElem?_eq_getElem hin]
        rfl)
      (fun j hj => by rw [frozen_of_row w g _ cur _ hc])
    rw [hsize, Nat.mul_one] at hrun
    have hset : (w.setCells g (o + n) [.int .i64 x]) = w.setCell ⟨g, o + n, none⟩ (.int .i64 x) := rfl
    rw [hset] at hrun
    refine ⟨g, o, cap, _, hrun, ⟨_, heap_setCell_same _ _ _ _ _ _ hc, by simpa using h1, by rw [List.length_append]; simp; omega, fun j hj => ?_⟩, ?_, .inl rfl, ?_⟩
    · rw [List.length_append] at hj
      rw [Array.getElem?_setIfInBounds]
      by_cases e : o + n = o + j
      · obtain rfl : j = n := by omega
        rw [if_pos rfl, if_pos (by omega)]
        subst hn
        rw [eI_last]
      · have hj' : j < xs.length := by simp at hj; omega
        rw [if_neg e, r j hj', eI_append hj']
    · exact gset (⟨rfl, rfl, rfl, Nat.le_refl _, fun _ _ _ => rfl⟩ : w.grownBy w (some g)) (o + n) (.int .i64 x)
    · exact ⟨by simp [World.setCell], fun k ob hk hob => by
        by_cases e : k = g
        · subst e
          have e2 := Option.some.inj (hc.symm.trans hk)
          subst e2
          cases hob
        · exact (heap_setCell_other w ⟨g, o + n, none⟩ k _ e).trans hk⟩
  · have hcn : cap = n := by omega
    obtain ⟨v', w', hrun, r1, r2⟩ := run_append_arg_grows (P := Try.prog) (w := w) 44 ty 2 i (.int .i64 0) 1 8 Try.underlying44 hi hz hsize hby rfl (by decide) ⟨g, o, none⟩ n cap (intVals xs) (by rw [intVals_length]; omega)
      (fun j u hu => by
        have hj : j < xs.length := by
          have := (List.getElem?_eq_some_iff.1 hu).1
          rwa [intVals_length] at this
        rw [intVals_at hj] at hu
        have e2 := Option.some.inj hu
        subst e2
        have := cell_of_row w g (o + j) cur _ _ hc
        rw [r j hj] at this
        cases j
        · simpa [Addr.add] using this
        · simpa [Addr.add] using this)
      ad 1 c [.int .i64 x] rfl hnews (by omega) (by unfold maxLen; omega) (by omega)
    have r1' : w'.ownsRow w.heap.size 2 1 v' (n + 1) (intVals (xs ++ [x])) := by rw [intVals_append]; exact r1
    rcases r1'.2 with ⟨_, h0⟩ | ⟨g', cap', cur', hv, hb, _⟩
    · omega
    · subst hv
      have hO := (OwnI.of_row r1' (by rw [List.length_append]; simp; omega)).1
      exact ⟨g', 0, cap', w', hrun, hO.queue, ⟨r2.os, r2.tape, r2.output, r2.size, fun k hk _ => r2.block k hk (by simp)⟩, .inr hb, ⟨r2.size, fun k ob hk _ => (r2.block k (Array.getElem?_eq_some_iff.1 hk).1 (by simp)).trans hk⟩⟩

theorem wpListIn_append_queue {F : Fence} {n : Nat} {ops : Array Oper} {rest : List Oper} {oo : Oper} {a : Act} {Q : Exit → Act → World → Prop} (hg : oo.guard = none) (s x : Operand)
    (hop : oo.op = Op.call { callee := Callee.builtin Builtin.append, args := #[s, x], argTypes := #[44, 44] }) (i : TypeInfo) (hi : Try.prog.info? 2 = some i) (hz : i.zero = some (.int .i64 0)) (hsize : i.size = 1) (hby : i.bytes = 8)
    (m : Nat) (hm : xs.length = m) (hm63 : m ≤ 1000) (h : OwnQ w g o cap xs) (hs : a.eval s = .slice (some ⟨g, o, none⟩) m cap) (y : Int) (ad : Addr) (hy : w.cell? ad = some (.int .i64 y)) (c : Nat) (hx : a.eval x = .slice (some ad) 1 c)
    (hK : ∀ g' o' cap' w', OwnQ w' g' o' cap' (xs ++ [y]) → w.grownBy w' (some g) → (g' = g ∨ w.heap.size ≤ g') → KeepsOthers w w' → wpListIn F n Try.prog ops Q rest (a.put oo.dst (.slice (some ⟨g', o', none⟩) (m + 1) cap')) w') :
    wpListIn F n Try.prog ops Q (oo :: rest) a w := by
  refine wpListIn_plain hg fun K hK' => ?_
  obtain ⟨g', o', cap', w', hrun, r1, r2, r3, r4⟩ := run_queue_append i hi hz hsize hby oo.type m hm hm63 h y ad hy c
  unfold Oper.wpIn
  refine ⟨?_, ?_⟩
  · simp [Oper.about, hop, resolve, Target.leads, Sem.run_pure]
  · rw [Oper.semAt_plain F _ _ (by rw [hop]; intro c hc'; cases hc')]
    simp [execOp, hop, resolve, invoke, builtin, hs, hx, hrun, Result.andThen]
    exact hK' _ _ (hK g' o' cap' w' r1 r2 r3 r4)
end

/-- The defers of several ranges over functions, each done. -/
def colls (Ds : List Nat) : List Deferred := Ds.map fun D => { target := .collected D, args := #[] }
theorem leaves_colls {F : Fence} {n : Nat} {fn : Func} {tmps : Array Value} {R : Ending → World → Prop} {v : Value} (hv : ∀ w', (results fn tmps).run Try.prog w' = .ok v w') :
    ∀ (Ds : List Nat) (w : World), Ds.Nodup → (∀ D, D ∈ Ds → w.heap[D]? = some (.deferred (some []))) → (∀ w', w'.os = w.os → w'.tape = w.tape → w'.output = w.output → w'.heap.size = w.heap.size → (∀ k, k ∉ Ds → w'.heap[k]? = w.heap[k]?) → R (.returned v) w') →
    LeavesInM F n Try.prog fn tmps R (colls Ds) .returning w
  | [], w, _, _, hR => ⟨v, hv w, hR w rfl rfl rfl rfl (fun _ _ => rfl)⟩
  | D :: Ds, w, hn, hD, hR => by
    have hK := hD D (by simp)
    obtain ⟨hn1, hn2⟩ := List.nodup_cons.1 hn
    refine ⟨by simp, .inl ⟨D, _, rfl, run_takeDeferred hK, ?_⟩⟩
    refine leaves_colls hv Ds _ hn2 (fun D' h' => ?_) (fun w' h1 h2 h3 h4 h5 => ?_)
    · have hne : D' ≠ D := fun e => hn1 (e ▸ h')
      have h6 := hD D' (by simp [h'])
      simp only [World.putObj]
      rw [Array.getElem?_setIfInBounds, if_neg (fun e => hne e.symm)]
      exact h6
    · refine hR w' (by rw [h1]; rfl) (by rw [h2]; rfl) (by rw [h3]; rfl) (by rw [h4]; simp [World.putObj]) (fun k hk => ?_)
      rw [h5 k (fun h => hk (by simp [h]))]
      have hne : k ≠ D := fun e => hk (by simp [e])
      simp only [World.putObj]
      rw [Array.getElem?_setIfInBounds, if_neg (fun e => hne e.symm)]

end Go.Proofs.Ytafhpldcpgjpjaa
