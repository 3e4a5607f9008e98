/- HasColouring in the program: it returns out of the range at the first colouring. -/
import Derived.Test.YtppkcpekknhbmaaNrmJ
namespace Go.Proofs.Ytppkcpekknhbmaa
open Go.RowKit Go.Shelf

attribute [local go_sem] Oper.semAt_some

theorem boxedN_at (w : World) (g : Nat) (t : TypeId) (v : Value) (hg : g = w.heap.size) : Boxed (w.alloc (.cells #[v] t)) g t v := by subst hg; exact Boxed.new w t v
theorem boxN_moved {X Y : World} {B : Nat} {p : Nat → Prop} {t : TypeId} {v : Value} (h : Boxed X B t v) (hm : Kept p X Y) (hp : p B) : Boxed Y B t v := (hm.same B hp h.lt).trans h
theorem boxN_on {w w' : World} {B : Nat} {t : TypeId} {v : Value} (h : Boxed w B t v) (hb : Below w.heap.size w w') : Boxed w' B t v := (hb.block B h.lt).trans h
/-- The two results, read out of their cells. -/
theorem results_has {fn : Func} {p q : Tmp} (h : fn.results = #[.cell p 4, .cell q 2]) (tmps : Array Value) (w : World) (g1 g2 : Nat) (x : Bool) (y : Int) (h1 : tmps.getD p undef = .pointer (some ⟨g1, 0, none⟩)) (h2 : tmps.getD q undef = .pointer (some ⟨g2, 0, none⟩)) (hx : Boxed w g1 4 (.bool x)) (hy : Boxed w g2 2 (.int .i64 y)) :
    (results fn tmps).run Try.prog w = .ok (.tuple #[.bool x, .int .i64 y]) w := by
  have e1 : tmps[p]?.getD undef = .pointer (some ⟨g1, 0, none⟩) := by simpa using h1
  have e2 : tmps[q]?.getD undef = .pointer (some ⟨g2, 0, none⟩) := by simpa using h2
  have ha : (isAgg 2).run Try.prog w = .ok false w := by
    unfold isAgg
    rw [Sem.run_bind, run_underlying Try.underlying2 w]
    rfl
  have hb : (isAgg 4).run Try.prog w = .ok false w := by
    unfold isAgg
    rw [Sem.run_bind, run_underlying Try.underlying4 w]
    rfl
  have c1 := hx.cell
  have c2 := hy.cell
  simp [results, h, e1, e2, asAddr, loadVar, Sem.run_bind, ha, hb, c1, c2, Result.andThen]

set_option maxRecDepth 100000 in
set_option maxHeartbeats 8000000 in
theorem iHas_yes (s : Int) (b off n c : Nat) (es : List (Int × Int)) (w : World) (hn : es.length = n) (hr : ReadsE w b off es) (g : IsG s es) :
    Calls Try.prog 15 #[.agg #[.int .i64 s, .slice (some ⟨b, off, none⟩) n c]] w fun e' w' => e' = .returned (.tuple #[.bool (decide (nrmL es ≠ [])), .int .i64 0]) ∧ Below w.heap.size w w' := by
  have hn30 : n ≤ 30 := by have := isG_len g; omega
  have hbb : b < w.heap.size := reads_lt hr (by have := three_leN g; omega)
  have Hn := hid hn
  have Hr := hid hr
  have G := hid g
  clear hn hr g
  refine (callsIn_wide (n := 6)).1 ?_
  refine callsIn_of_wp_marks Try.func15 rfl trivial ?_ rfl
  simp only [Try.ntmps15, List.size_toArray, List.length_cons, List.length_nil, Nat.reduceAdd, Nat.reduceSub, Array.replicate_succ, Array.replicate_zero, List.push_toArray, List.append_toArray, List.nil_append, List.cons_append]
  obtain ⟨w1, hw1⟩ : ∃ w1, w1 = ((w.alloc (.cells #[.int .i64 s, .slice (some ⟨b, off, none⟩) n c] 30)).alloc (.cells #[.bool false] 4)).alloc (.cells #[.int .i64 0] 2) := ⟨_, rfl⟩
  have HB1 := hid (show Below w.heap.size w w1 by rw [hw1]; exact bfrom (bfrom (on_alloc _ _) (on_alloc _ _)) (on_alloc _ _))
  have HX1 := hid (show Box w1 w.heap.size s (some ⟨b, off, none⟩) n c by rw [hw1]; exact ((Box.new w s (some ⟨b, off, none⟩) n c 30).on (on_alloc _ _)).on (on_alloc _ _))
  have HP1 := hid (show Boxed w1 (w.heap.size + 1) 4 (.bool false) by rw [hw1]; exact (boxedN_at _ _ _ _ (by simp)).alloc _)
  have HQ1 := hid (show Boxed w1 (w.heap.size + 1 + 1) 2 (.int .i64 0) by rw [hw1]; exact boxedN_at _ _ _ _ (by simp))
  have HZ1 := hid (show w1.heap.size = w.heap.size + 3 by rw [hw1]; simp)
  gi_wp2
  rw [← hw1]
  clear hw1
  refine ⟨trivial, ?_⟩
  refine (callsIn_wide.2 (iIsGraph_any _ _ _ _ es w1 (by omega) Hn.out (.inr ⟨b, off, rfl, Hr.out.on HB1.out⟩))).mono ?_
  rw [decide_eq_true G.out]
  rintro e w2 ⟨rfl, hb2⟩
  have HX2 := hid (HX1.out.on hb2)
  have hx2 := HX2.out.1
  have hy2 := HX2.out.2
  have hz2 := HX2.out.lt
  have HP2 := hid (boxN_on HP1.out hb2)
  have HQ2 := hid (boxN_on HQ1.out hb2)
  have HB2 := hid (bfrom HB1.out hb2)
  have hs2 : w.heap.size + 3 ≤ w2.heap.size := by have := hb2.size; have := HZ1.out; omega
  clear hb2
  gi_wp2_with (refine ⟨trivial, ?_⟩; gi_at_call 46; refine (callsIn_wide.2 (iNormal_func _ _ _ _ _)).mono ?_; rintro e w' ⟨rfl, rfl⟩)
  have hG3 : (w2.alloc (.cells #[.int .i64 s, .slice (some ⟨b, off, none⟩) n c] 30)).heap[w2.heap.size]? = some (.cells #[.int .i64 s, .slice (some ⟨b, off, none⟩) n c] 30 (0, 0)) := World.alloc_heap_new w2 _
  refine rangeFunc_moves (n := 6) rfl (by omega) (gf := 84) (lb := #[.pointer (some ⟨w2.heap.size, 0, none⟩)]) rfl trivial (enters_of Try.func84 (by kernel_rfl) rfl) (A := w2.heap.size + 3) (by simp)
    (nrm_moves 4 w2.heap.size (w2.heap.size + 3) w2.heap.size b off n c s es _ (by simp) (by simp) hG3 G.out Hn.out (by omega) ((Hr.out.on HB2.out).on (on_alloc _ _)))
    (fun h k => ⟨h.1.trans k.1, k.2.1.trans h.2.1, k.2.2.trans h.2.2⟩)
    (fun W l o o' h1 h2 hl ho => by
      simp at h1
      refine ⟨⟨by simp [World.putObj], fun i hi _ => World.putObj_heap_other (by omega), fun i cur t fr hi _ => World.putObj_heap_other (fun e => by
        subst e
        rw [hl] at hi
        cases hi
        cases ho)⟩, World.putObj_heap_other (by omega), World.putObj_heap_other (by omega)⟩)
    (fun Y Z i o h h1 h2 ho => (h.same i (by omega) (Array.getElem?_eq_some_iff.1 ho).1).trans ho) (fun Y Z h => h.size)
    (fun x W l o o' h h1 h2 hl ho => ⟨h.1.keep (World.putObj_heap_other (by omega)), h.2.1, by simpa [World.putObj] using h.2.2⟩) (Below.refl _ _) (fun _ => rfl)
    (fun (pre : List (List Int)) W => pre = [] ∧ Boxed W (w.heap.size + 1) 4 (.bool false) ∧ Boxed W (w.heap.size + 1 + 1) 2 (.int .i64 0) ∧ Below w.heap.size w W)
    (fun c' pre W => (c' = .ret ∧ pre ≠ []) ∧ Boxed W (w.heap.size + 1) 4 (.bool true) ∧ Boxed W (w.heap.size + 1 + 1) 2 (.int .i64 0) ∧ Below w.heap.size w W)
    (OwnFrom.and (ownFrom_pure _ (fun pre => pre = [])) (OwnFrom.and (Own.from (boxed_own _ _ (fun _ => _)) _) (OwnFrom.and (Own.from (boxed_own _ _ (fun _ => _)) _) (ownFrom_below (Nat.le_refl _) (by simp; omega)))))
    (fun c' => OwnFrom.and (ownFrom_pure _ (fun pre => c' = .ret ∧ pre ≠ [])) (OwnFrom.and (Own.from (boxed_own _ _ (fun _ => _)) _) (OwnFrom.and (Own.from (boxed_own _ _ (fun _ => _)) _) (ownFrom_below (Nat.le_refl _) (by simp; omega)))))
    (fun s Y Z h hm => ⟨h.1, boxN_moved h.2.1 hm (by omega), boxN_moved h.2.2.1 hm (by omega), h.2.2.2.trans (hm.below (fun i hi => by omega) h.2.2.2.size)⟩)
    (fun c' s Y Z h hm => ⟨h.1, boxN_moved h.2.1 hm (by omega), boxN_moved h.2.2.1 hm (by omega), h.2.2.2.trans (hm.below (fun i hi => by omega) h.2.2.2.size)⟩)
    ⟨rfl, HP2.out.alloc _, HQ2.out.alloc _, bfrom HB2.out (on_alloc _ _)⟩
    ?a1 ?assign ?body ?done ?stop
  case assign =>
    intro l x W K hK
    gi_wp2
    exact hK
  case body =>
    rintro l pre x W ⟨rfl, h3, h4, hB⟩ hX hA hlt
    have hc3 := h3.cell
    have hc4 := h4.cell
    have hf3 := h3.frozen
    have hf4 := h4.frozen
    gi_wp2
    exact ⟨((KeepsOthers.setCell W _ _).trans (KeepsOthers.setCell _ _ _)).from _, ⟨rfl, by simp⟩, (Boxed.set _ h3).other (by omega) _, Boxed.set _ (h4.other (by omega) _), ((hB.setCell (p := ⟨w.heap.size + 1, 0, none⟩) (by show w.heap.size ≤ w.heap.size + 1; omega) _).setCell (p := ⟨w.heap.size + 1 + 1, 0, none⟩) (by show w.heap.size ≤ w.heap.size + 1 + 1; omega) _)⟩
  case done =>
    rintro D ys W hD hS ⟨hp, h3, h4, hB⟩ hK
    have hnil : nrmL es = [] := by rw [← hS]; exact hp
    have hc3 := h3.cell
    have hc4 := h4.cell
    have hf3 := h3.frozen
    have hf4 := h4.frozen
    have hno : decide (nrmL es ≠ []) = false := decide_eq_false (fun h => h hnil)
    simp at hD
    have b3 : Boxed ((W.setCell ⟨w.heap.size + 1, 0, none⟩ (.bool false)).setCell ⟨w.heap.size + 1 + 1, 0, none⟩ (.int .i64 0)) (w.heap.size + 1) 4 (.bool false) := (Boxed.set _ h3).other (by omega) _
    have b4 : Boxed ((W.setCell ⟨w.heap.size + 1, 0, none⟩ (.bool false)).setCell ⟨w.heap.size + 1 + 1, 0, none⟩ (.int .i64 0)) (w.heap.size + 1 + 1) 2 (.int .i64 0) := Boxed.set _ (h4.other (by omega) _)
    have hK2 : ((W.setCell ⟨w.heap.size + 1, 0, none⟩ (.bool false)).setCell ⟨w.heap.size + 1 + 1, 0, none⟩ (.int .i64 0)).heap[D]? = some (.deferred (some [])) := (heap_setCell_other _ _ D _ (by show D ≠ w.heap.size + 1 + 1; omega)).trans ((heap_setCell_other _ _ D _ (by show D ≠ w.heap.size + 1; omega)).trans hK)
    have hBB : Below w.heap.size w ((W.setCell ⟨w.heap.size + 1, 0, none⟩ (.bool false)).setCell ⟨w.heap.size + 1 + 1, 0, none⟩ (.int .i64 0)) := ((hB.setCell (p := ⟨w.heap.size + 1, 0, none⟩) (by show w.heap.size ≤ w.heap.size + 1; omega) _).setCell (p := ⟨w.heap.size + 1 + 1, 0, none⟩) (by show w.heap.size ≤ w.heap.size + 1 + 1; omega) _)
    gi_wp2
    refine ⟨by simp, .inl ⟨_, _, rfl, run_takeDeferred hK2, ?_⟩⟩
    exact ⟨_, results_has rfl _ _ (w.heap.size + 1) (w.heap.size + 1 + 1) _ _ rfl rfl (b3.kept (grownBy_putObj' _ D (.deferred none)) (fun e => by have := Option.some.inj e; omega)) (b4.kept (grownBy_putObj' _ D (.deferred none)) (fun e => by have := Option.some.inj e; omega)), by rw [hno], hBB.trans (belowK_b (w := w) (Nat.le_refl _) _ D _ _ (by omega) hK2 rfl rfl)⟩
  case stop =>
    rintro D c' pre W hD hpre ⟨⟨rfl, hne⟩, h3, h4, hB⟩ hK
    have hyes : decide (nrmL es ≠ []) = true := decide_eq_true (fun e => by
      rw [e] at hpre
      exact hne (List.prefix_nil.1 hpre))
    gi_wp2
    refine ⟨by simp, .inl ⟨_, _, rfl, run_takeDeferred hK, ?_⟩⟩
    simp at hD
    exact ⟨_, results_has rfl _ _ (w.heap.size + 1) (w.heap.size + 1 + 1) _ _ rfl rfl (h3.kept (grownBy_putObj' _ D (.deferred none)) (fun e => by have := Option.some.inj e; omega)) (h4.kept (grownBy_putObj' _ D (.deferred none)) (fun e => by have := Option.some.inj e; omega)), by rw [hyes], hB.trans (belowK_b (w := w) (Nat.le_refl _) W D _ _ (by omega) hK rfl rfl)⟩

end Go.Proofs.Ytppkcpekknhbmaa
