/- FirstColouring, in the model and in the program. -/
import Derived.Test.YtppkcpekknhbmaaNrmU
namespace Go.Proofs.Ytppkcpekknhbmaa
open Go.RowKit Go.Shelf

attribute [local go_sem] Oper.semAt_some

/-- The first one of some lists, or the error that there is none. -/
def fstL (Us : List (List Int)) : List Int × Int := if Us = [] then ([], 4) else (Us.headD [], 0)
def fFirstColouring (s : Int) (es : List (Int × Int)) : List Int × Int := if IsG s es then fstL (nrmL es) else ([], 1)
theorem nrmL_len {s : Int} {es : List (Int × Int)} (g : IsG s es) {x : List Int} (h : x ∈ nrmL es) : x.length = es.length := by
  have h1 := nrmF_len _ _ _ h
  have h2 := three_leN g
  rw [h1]
  show 3 + (es.length - 3) = _
  omega
theorem fstL_len {s : Int} {es : List (Int × Int)} (g : IsG s es) : (fstL (nrmL es)).1.length ≤ es.length := by
  unfold fstL
  by_cases h : nrmL es = []
  · rw [if_pos h]; simp
  · rw [if_neg h]
    obtain ⟨c, r, hc⟩ := List.exists_cons_of_ne_nil h
    rw [hc]
    exact Nat.le_of_eq (nrmL_len g (by rw [hc]; simp))
theorem fFirstColouring_len (s : Int) (es : List (Int × Int)) (h : es.length ≤ 1048576) : (fFirstColouring s es).1.length ≤ 1048576 := by
  unfold fFirstColouring
  by_cases g : IsG s es
  · rw [if_pos g]
    exact Nat.le_trans (fstL_len g) h
  · rw [if_neg g]; simp

theorem rowsM_in {w : World} {B cap : Nat} {q : Option Addr} {Ls : List (List Int)} {vals : List Value} (h : RowsM w B Ls cap q vals) {i : Nat} (hi : i < Ls.length) :
    ∃ gL gr cr, q = some ⟨gL, 0, none⟩ ∧ w.cell? ⟨gL, i, none⟩ = some (.slice (some ⟨gr, 0, none⟩) (lR Ls i).length cr) ∧ gL < w.heap.size ∧ B ≤ gr ∧ OwnI w gr cr (lR Ls i) ∧ vals[i]? = some (.slice (some ⟨gr, 0, none⟩) (lR Ls i).length cr) := by
  obtain ⟨gr, cr, hvi, hgr, hOr⟩ := h.2.2 i hi
  obtain ⟨gL, rfl⟩ : ∃ gL, q = some ⟨gL, 0, none⟩ := by
    rcases h.1.2 with ⟨hv, h0⟩ | ⟨gL, capL, cur, hv, _⟩
    · omega
    · injection hv with e1 e2 e3
      exact ⟨gL, e1⟩
  have hcL := h.1.cells (g := gL) rfl i _ hvi
  rw [Addr.add_lit, Nat.zero_add] at hcL
  exact ⟨gL, gr, cr, rfl, hcL, World.block_lt_of_cell? w _ hcL, hgr, hOr, hvi⟩

theorem results_first {fn : Func} {p q : Tmp} (h : fn.results = #[.cell p 34, .cell q 2]) (tmps : Array Value) (w : World) (g1 g2 : Nat) (a : Option Addr) (n c : Nat) (y : Int) (h1 : tmps.getD p undef = .pointer (some ⟨g1, 0, none⟩)) (h2 : tmps.getD q undef = .pointer (some ⟨g2, 0, none⟩)) (hx : Boxed w g1 34 (.slice a n c)) (hy : Boxed w g2 2 (.int .i64 y)) :
    (results fn tmps).run Try.prog w = .ok (.tuple #[.slice a n c, .int .i64 y]) w := by
  have e1 : tmps[p]?.getD undef = .pointer (some ⟨g1, 0, none⟩) := by simpa using h1
  have e2 : tmps[q]?.getD undef = .pointer (some ⟨g2, 0, none⟩) := by simpa using h2
  have ha : (isAgg 2).run Try.prog w = .ok false w := by
    unfold isAgg
    rw [Sem.run_bind, run_underlying Try.underlying2 w]
    rfl
  have hb : (isAgg 34).run Try.prog w = .ok false w := by
    unfold isAgg
    rw [Sem.run_bind, run_underlying Try.underlying34 w]
    rfl
  have c1 := hx.cell
  have c2 := hy.cell
  simp [results, h, e1, e2, asAddr, loadVar, Sem.run_bind, ha, hb, c1, c2, Result.andThen]

set_option maxHeartbeats 2000000 in
set_option maxRecDepth 100000 in
theorem cloneN_row (b off n c : Nat) (xs : List Int) (w : World) (hn : xs.length = n) (hm : n ≤ 1048576) (hr : ReadsI w b off xs) :
    Calls Try.prog 48 #[.slice (some ⟨b, off, none⟩) n c] w fun e w' => ∃ q cap, e = .returned (.slice q n cap) ∧ FreshI w.heap.size w' q n cap xs ∧ Below w.heap.size w w' := by
  obtain ⟨i0, hi, hz0, hz1, hz2⟩ := info_parts infoInt
  have Hr := hid hr
  have Hn := hid hn
  clear hr hn
  have q27 : ∀ (w : World) (a : Option Addr) (n c n' c' : Nat), (binOp .eql 34 (.slice a n c) (.slice none n' c')).run Try.prog w = .ok (.bool a.isNone) w := fun w a n c n' c' => Lib.run_eql_slice_nil w _ _ a n c n' c' Try.underlying34
  have u27 : ∀ w, Sem.run Try.prog (underlying 34) w = .ok (TypeDesc.slice 2) w := run_underlying Try.underlying34
  go_enter Try.func48, Try.ntmps48
  go_wp2_with (at_builtin; refine wpList_append_own _ rfl _ _ 34 rfl w.heap.size 2 i0 (.int .i64 0) 1 8 Try.underlying34 hi hz0 hz1 hz2 rfl (by decide) _ _ _ rfl (World.ownsRow_made w #[] 0 (Nat.le_refl _) (Nat.zero_le _) rfl) ⟨b, off, none⟩ n c (intVals xs) rfl ?qc1 ?qc2 ?qc3 ?qc4 ?qc5 ?qc6 ?_)
  case qc1 => rw [show (intVals xs).length = xs.length by simp [intVals], Hn.out, Nat.mul_one]
  case qc2 =>
    intro j u hj
    rw [Addr.add_lit]
    have hjl : j < xs.length := by
      have := (List.getElem?_eq_some_iff.1 hj).1
      simpa [intVals] using this
    have hu : u = .int .i64 (eI xs j) := by
      unfold intVals at hj
      rw [List.getElem?_map, List.getElem?_eq_getElem hjl] at hj
      rw [eI_lt hjl]
      exact (Option.some.inj hj).symm
    rw [hu]
    exact Lib.cell?_alloc_some _ (Hr.out j hjl)
  case qc3 =>
    intro u hu
    obtain ⟨x, _, rfl⟩ := List.mem_map.1 hu
    rfl
  case qc4 => unfold maxLen; omega
  case qc5 => omega
  case qc6 => simp
  intro v' w1 hown hgrow hnil
  go_wp2
  go_ret
  have hB : Below w.heap.size w w1 := ((Below.refl _ w).alloc (Nat.le_refl _) _).grown hgrow (by simp) (by intro k hk; simp [Value.ownBlock] at hk; omega)
  have ho : w1.ownsRow w.heap.size 2 1 v' n (intVals xs) := by simpa using hown
  rcases ho.2 with ⟨rfl, h0⟩ | ⟨g, cap, cur, rfl, _⟩
  · exact ⟨none, 0, by rw [h0]; rfl, ⟨by rw [h0] at ho ⊢; exact ho, by rw [Hn.out]⟩, hB⟩
  · exact ⟨_, _, rfl, ⟨ho, by rw [Hn.out]⟩, hB⟩


set_option maxRecDepth 100000 in
set_option maxHeartbeats 4000000 in
theorem sFirst_yes (s : Int) (b off n c : Nat) (es : List (Int × Int)) (w : World) (hn : es.length = n) (hr : ReadsE w b off es) (g : IsG s es) :
    Calls Try.prog 17 #[.agg #[.int .i64 s, .slice (some ⟨b, off, none⟩) n c]] w fun e' w' => ∃ q cap, e' = .returned (.tuple #[.slice q (fstL (nrmL es)).1.length cap, .int .i64 (fstL (nrmL es)).2]) ∧ FreshI w.heap.size w' q (fstL (nrmL es)).1.length cap (fstL (nrmL es)).1 ∧ Below w.heap.size w w' := by
  have hn30 : n ≤ 30 := by have := isG_len g; omega
  have Hn := hid hn
  have Hr := hid hr
  have G := hid g
  obtain ⟨F, hF⟩ : ∃ F, fstL (nrmL es) = F := ⟨_, rfl⟩
  rw [hF]
  have HF := hid hF
  clear hn hr g hF
  go_enter Try.func17, Try.ntmps17
  go_wp2_with fail
  refine (sIs_any _ _ _ _ es _ (by omega) Hn.out (SeesE.on (.inr ⟨b, off, rfl, Hr.out⟩) (on_alloc _ _))).mono ?_
  rw [decide_eq_true G.out]
  rintro e w2 ⟨rfl, hb2⟩
  have HB2 := hid (bfrom (w := w) (on_alloc _ _) hb2)
  have hX2 := (Box.new w s (some ⟨b, off, none⟩) n c 30).on hb2
  have hx2 := hX2.1
  have hy2 := hX2.2
  have hz2 := hX2.lt
  clear hX2 hb2
  go_wp2_with fail
  refine (sNormal_any s b off n c 0 es _ Hn.out G.out (Hr.out.on HB2.out) (by omega)).mono ?_
  rintro e w3 ⟨q3, cap3, vals3, he, hr3, hb3⟩
  have HB3 := hid (bfrom HB2.out hb3)
  have hw23 := hb3.size
  by_cases h0 : nrmL es = []
  · have he' : e = .returned (.slice q3 0 cap3) := by rw [he, h0]; rfl
    subst he'
    have HF0 := hid (show F = ([], 4) by rw [← HF.out]; unfold fstL; rw [if_pos h0])
    clear he hr3 hb3 hx2 hy2 h0
    go_wp2
    go_ret2
    rw [HF0.out]
    exact ⟨none, 0, rfl, FreshI.nil _ _, HB3.out⟩
  · obtain ⟨c0, rest, hc⟩ := List.exists_cons_of_ne_nil h0
    have hT : (nrmL es).take (0 + 1) = [c0] := by rw [hc]; rfl
    rw [hT] at he hr3
    have he' : e = .returned (.slice q3 1 cap3) := he
    subst he'
    have HF0 := hid (show F = (c0, 0) by rw [← HF.out]; unfold fstL; rw [if_neg h0, hc]; rfl)
    obtain ⟨gL, gr, cr, rfl, hcL, hgL, hgr, hO, _⟩ := rowsM_in hr3 (i := 0) (by simp)
    have hl0 : lR [c0] 0 = c0 := rfl
    rw [hl0] at hcL hO
    obtain ⟨L0, hL0⟩ : ∃ L0, c0.length = L0 := ⟨_, rfl⟩
    rw [hL0] at hcL
    have HO := hid hO
    have HL0 := hid hL0
    clear he hr3 hb3 hx2 hy2 h0 hT hc hl0 hO hL0
    go_wp2
    go_ret2
    rw [HF0.out]
    exact ⟨some ⟨gr, 0, none⟩, cr, by rw [HL0.out]; rfl, by rw [HL0.out]; exact FreshI.of_own HO.out HL0.out (by have := HB2.out.size; omega), HB3.out⟩

theorem fresh_some {w : World} {B n cap : Nat} {q : Option Addr} {xs : List Int} (h : FreshI B w q n cap xs) (hn : 0 < n) : ∃ g, q = some ⟨g, 0, none⟩ ∧ B ≤ g ∧ OwnI w g cap xs := by
  rcases h.form with ⟨_, h, _⟩ | h
  · omega
  · exact h
/-- The first colouring's copy, and where the result's variable points. -/
def FirstAt (n B A : Nat) (pre : List (List Int)) (W : World) : Prop := ∃ x g cap, pre = [x] ∧ x.length = n ∧ Boxed W B 34 (.slice (some ⟨g, 0, none⟩) n cap) ∧ A + 2 ≤ g ∧ OwnI W g cap x
theorem firstAt_own (n B A : Nat) : Own (FirstAt n B A) := fun s W W' row h hg hr => by
  obtain ⟨x, g, cap, h1, h2, h3, h4, h5⟩ := h
  refine ⟨x, g, cap, h1, h2, h3.kept hg (fun e => ?_), h4, h5.keep (hg.block g h5.lt (fun e => ?_))⟩
  · obtain ⟨o, ho, hc⟩ := hr B e.symm
    rw [h3] at ho
    cases ho
    cases hc
  · obtain ⟨o, ho, hc⟩ := hr g e.symm
    obtain ⟨cur, hcur, _⟩ := h5
    rw [hcur] at ho
    cases ho
    cases hc
theorem firstAt_moved {n B A : Nat} {pre : List (List Int)} {Y Z : World} (h : FirstAt n B A pre Y) (hm : Kept (fun i => i ≠ A ∧ i ≠ A + 1) Y Z) (hB : B < A) : FirstAt n B A pre Z := by
  obtain ⟨x, g, cap, h1, h2, h3, h4, h5⟩ := h
  exact ⟨x, g, cap, h1, h2, boxN_moved h3 hm (by omega), h4, h5.keep (hm.same g (by omega) h5.lt)⟩

set_option maxRecDepth 100000 in
set_option maxHeartbeats 8000000 in
theorem iFirst_yes (s : Int) (b off n c : Nat) (es : List (Int × Int)) (w : World) (hn : es.length = n) (hr : ReadsE w b off es) (g : IsG s es) :
    Calls Try.prog 18 #[.agg #[.int .i64 s, .slice (some ⟨b, off, none⟩) n c]] w fun e' w' => ∃ q cap, e' = .returned (.tuple #[.slice q (fstL (nrmL es)).1.length cap, .int .i64 (fstL (nrmL es)).2]) ∧ FreshI w.heap.size w' q (fstL (nrmL es)).1.length cap (fstL (nrmL es)).1 ∧ Below w.heap.size w w' := by
  obtain ⟨F, hF⟩ : ∃ F, fstL (nrmL es) = F := ⟨_, rfl⟩
  rw [hF]
  have HF := hid hF
  clear hF
  have hn30 : n ≤ 30 := by have := isG_len g; omega
  have hbb : b < w.heap.size := reads_lt hr (by have := three_leN g; omega)
  have Hn := hid hn
  have Hr := hid hr
  have G := hid g
  clear hn hr g
  refine (callsIn_wide (n := 6)).1 ?_
  refine callsIn_of_wp_marks Try.func18 rfl trivial ?_ rfl
  simp only [Try.ntmps18, List.size_toArray, List.length_cons, List.length_nil, Nat.reduceAdd, Nat.reduceSub, Array.replicate_succ, Array.replicate_zero, List.push_toArray, List.append_toArray, List.nil_append, List.cons_append]
  obtain ⟨w1, hw1⟩ : ∃ w1, w1 = ((w.alloc (.cells #[.int .i64 s, .slice (some ⟨b, off, none⟩) n c] 30)).alloc (.cells #[.slice none 0 0] 34)).alloc (.cells #[.int .i64 0] 2) := ⟨_, rfl⟩
  have HB1 := hid (show Below w.heap.size w w1 by rw [hw1]; exact bfrom (bfrom (on_alloc _ _) (on_alloc _ _)) (on_alloc _ _))
  have HX1 := hid (show Box w1 w.heap.size s (some ⟨b, off, none⟩) n c by rw [hw1]; exact ((Box.new w s (some ⟨b, off, none⟩) n c 30).on (on_alloc _ _)).on (on_alloc _ _))
  have HP1 := hid (show Boxed w1 (w.heap.size + 1) 34 (.slice none 0 0) by rw [hw1]; exact (boxedN_at _ _ _ _ (by simp)).alloc _)
  have HQ1 := hid (show Boxed w1 (w.heap.size + 1 + 1) 2 (.int .i64 0) by rw [hw1]; exact boxedN_at _ _ _ _ (by simp))
  have HZ1 := hid (show w1.heap.size = w.heap.size + 3 by rw [hw1]; simp)
  gi_wp2
  rw [← hw1]
  clear hw1
  refine ⟨trivial, ?_⟩
  refine (callsIn_wide.2 (iIsGraph_any _ _ _ _ es w1 (by omega) Hn.out (.inr ⟨b, off, rfl, Hr.out.on HB1.out⟩))).mono ?_
  rw [decide_eq_true G.out]
  rintro e w2 ⟨rfl, hb2⟩
  have HX2 := hid (HX1.out.on hb2)
  have hx2 := HX2.out.1
  have hy2 := HX2.out.2
  have hz2 := HX2.out.lt
  have HP2 := hid (boxN_on HP1.out hb2)
  have HQ2 := hid (boxN_on HQ1.out hb2)
  have HB2 := hid (bfrom HB1.out hb2)
  have hs2 : w.heap.size + 3 ≤ w2.heap.size := by have := hb2.size; have := HZ1.out; omega
  clear hb2
  gi_wp2_with (refine ⟨trivial, ?_⟩; gi_at_call 46; refine (callsIn_wide.2 (iNormal_func _ _ _ _ _)).mono ?_; rintro e w' ⟨rfl, rfl⟩)
  have hG3 : (w2.alloc (.cells #[.int .i64 s, .slice (some ⟨b, off, none⟩) n c] 30)).heap[w2.heap.size]? = some (.cells #[.int .i64 s, .slice (some ⟨b, off, none⟩) n c] 30 (0, 0)) := World.alloc_heap_new w2 _
  refine rangeFunc_moves (n := 6) rfl (by omega) (gf := 84) (lb := #[.pointer (some ⟨w2.heap.size, 0, none⟩)]) rfl trivial (enters_of Try.func84 (by kernel_rfl) rfl) (A := w2.heap.size + 3) (by simp)
    (nrm_moves 4 w2.heap.size (w2.heap.size + 3) w2.heap.size b off n c s es _ (by simp) (by simp) hG3 G.out Hn.out (by omega) ((Hr.out.on HB2.out).on (on_alloc _ _)))
    (fun h k => ⟨h.1.trans k.1, k.2.1.trans h.2.1, k.2.2.trans h.2.2⟩)
    (fun W l o o' h1 h2 hl ho => by
      simp at h1
      refine ⟨⟨by simp [World.putObj], fun i hi _ => World.putObj_heap_other (by omega), fun i cur t fr hi _ => World.putObj_heap_other (fun e => by
        subst e
        rw [hl] at hi
        cases hi
        cases ho)⟩, World.putObj_heap_other (by omega), World.putObj_heap_other (by omega)⟩)
    (fun Y Z i o h h1 h2 ho => (h.same i (by omega) (Array.getElem?_eq_some_iff.1 ho).1).trans ho) (fun Y Z h => h.size)
    (fun x W l o o' h h1 h2 hl ho => ⟨h.1.keep (World.putObj_heap_other (by omega)), h.2.1, by simpa [World.putObj] using h.2.2⟩) (Below.refl _ _) (fun _ => rfl)
    (fun (pre : List (List Int)) W => pre = [] ∧ Boxed W (w.heap.size + 1) 34 (.slice none 0 0) ∧ Boxed W (w.heap.size + 1 + 1) 2 (.int .i64 0) ∧ Below w.heap.size w W)
    (fun c' pre W => c' = .ret ∧ FirstAt n (w.heap.size + 1) (w2.heap.size + 3) pre W ∧ Boxed W (w.heap.size + 1 + 1) 2 (.int .i64 0) ∧ Below w.heap.size w W)
    (OwnFrom.and (ownFrom_pure _ (fun pre => pre = [])) (OwnFrom.and (Own.from (boxed_own _ _ (fun _ => _)) _) (OwnFrom.and (Own.from (boxed_own _ _ (fun _ => _)) _) (ownFrom_below (Nat.le_refl _) (by simp; omega)))))
    (fun c' => OwnFrom.and (ownFrom_pure _ (fun _ => c' = .ret)) (OwnFrom.and (Own.from (firstAt_own _ _ _) _) (OwnFrom.and (Own.from (boxed_own _ _ (fun _ => _)) _) (ownFrom_below (Nat.le_refl _) (by simp; omega)))))
    (fun s Y Z h hm => ⟨h.1, boxN_moved h.2.1 hm (by omega), boxN_moved h.2.2.1 hm (by omega), h.2.2.2.trans (hm.below (fun i hi => by omega) h.2.2.2.size)⟩)
    (fun c' s Y Z h hm => ⟨h.1, firstAt_moved h.2.1 hm (by omega), boxN_moved h.2.2.1 hm (by omega), h.2.2.2.trans (hm.below (fun i hi => by omega) h.2.2.2.size)⟩)
    ⟨rfl, HP2.out.alloc _, HQ2.out.alloc _, bfrom HB2.out (on_alloc _ _)⟩
    ?a1 ?assign ?body ?done ?stop
  case assign =>
    intro l x W K hK
    gi_wp2
    exact hK
  case body =>
    rintro l pre x W ⟨rfl, h3, h4, hB⟩ hX hA hlt
    have HX := hid hX
    have H3 := hid h3
    have H4 := hid h4
    have HBW := hid hB
    have hz3 := h3.lt
    have hz4 := h4.lt
    have hzX := hX.2.2
    clear h3 h4 hB hX
    gi_wp2_with (refine ⟨trivial, ?_⟩; gi_at_call 48; refine (callsIn_wide.2 (cloneN_row (w2.heap.size + 3) 0 n n x _ HX.out.2.1 (by omega) HX.out.1.reads)).mono ?_; rintro e' W5 ⟨q5, cap5, rfl, hf5, hb5⟩; obtain ⟨g5, rfl, hg5, ho5⟩ := fresh_some hf5 (by have := three_leN G.out; have := Hn.out; omega); have HO5 := hid ho5; have HB5 := hid hb5; have h3 := boxN_on H3.out hb5; have h4 := boxN_on H4.out hb5; have hc3 := h3.cell; have hc4 := h4.cell; have hf3 := h3.frozen; have hf4 := h4.frozen; have hsz5 := hb5.size; have hz35 := h3.lt; have hz45 := h4.lt; clear hf5 hb5 ho5)
    have hKo : KeepsOthers W W5 := KeepsOthers.of_grownBy (grown_below HB5.out) (fun j o h => by cases h)
    exact ⟨((hKo.trans (KeepsOthers.setCell _ _ _)).trans (KeepsOthers.setCell _ _ _)).from _, rfl, ⟨x, g5, cap5, rfl, HX.out.2.1, (Boxed.set _ h3).other (by omega) _, by omega, (HO5.out.far (by show g5 ≠ w.heap.size + 1; omega) _).far (by show g5 ≠ w.heap.size + 1 + 1; omega) _⟩, Boxed.set _ (h4.other (by omega) _), (((HBW.out.trans (HB5.out.mono (by have := HBW.out.size; omega))).setCell (p := ⟨w.heap.size + 1, 0, none⟩) (by show w.heap.size ≤ w.heap.size + 1; omega) _).setCell (p := ⟨w.heap.size + 1 + 1, 0, none⟩) (by show w.heap.size ≤ w.heap.size + 1 + 1; omega) _)⟩
  case done =>
    rintro D ys W hD hS ⟨hp, h3, h4, hB⟩ hK
    have hnil : nrmL es = [] := by rw [← hS]; exact hp
    have hc3 := h3.cell
    have hc4 := h4.cell
    have hf3 := h3.frozen
    have hf4 := h4.frozen
    have HF0 := hid (show F = ([], 4) by rw [← HF.out]; unfold fstL; rw [if_pos hnil])
    simp at hD
    have b3 : Boxed ((W.setCell ⟨w.heap.size + 1, 0, none⟩ (.slice none 0 0)).setCell ⟨w.heap.size + 1 + 1, 0, none⟩ (.int .i64 4)) (w.heap.size + 1) 34 (.slice none 0 0) := (Boxed.set _ h3).other (by omega) _
    have b4 : Boxed ((W.setCell ⟨w.heap.size + 1, 0, none⟩ (.slice none 0 0)).setCell ⟨w.heap.size + 1 + 1, 0, none⟩ (.int .i64 4)) (w.heap.size + 1 + 1) 2 (.int .i64 4) := Boxed.set _ (h4.other (by omega) _)
    have hK2 : ((W.setCell ⟨w.heap.size + 1, 0, none⟩ (.slice none 0 0)).setCell ⟨w.heap.size + 1 + 1, 0, none⟩ (.int .i64 4)).heap[D]? = some (.deferred (some [])) := (heap_setCell_other _ _ D _ (by show D ≠ w.heap.size + 1 + 1; omega)).trans ((heap_setCell_other _ _ D _ (by show D ≠ w.heap.size + 1; omega)).trans hK)
    have hBB : Below w.heap.size w ((W.setCell ⟨w.heap.size + 1, 0, none⟩ (.slice none 0 0)).setCell ⟨w.heap.size + 1 + 1, 0, none⟩ (.int .i64 4)) := ((hB.setCell (p := ⟨w.heap.size + 1, 0, none⟩) (by show w.heap.size ≤ w.heap.size + 1; omega) _).setCell (p := ⟨w.heap.size + 1 + 1, 0, none⟩) (by show w.heap.size ≤ w.heap.size + 1 + 1; omega) _)
    gi_wp2
    refine ⟨by simp, .inl ⟨_, _, rfl, run_takeDeferred hK2, ?_⟩⟩
    refine ⟨_, results_first rfl _ _ (w.heap.size + 1) (w.heap.size + 1 + 1) _ _ _ _ rfl rfl (b3.kept (grownBy_putObj' _ D (.deferred none)) (fun e => by have := Option.some.inj e; omega)) (b4.kept (grownBy_putObj' _ D (.deferred none)) (fun e => by have := Option.some.inj e; omega)), ?_⟩
    rw [HF0.out]
    exact ⟨none, 0, rfl, FreshI.nil _ _, hBB.trans (belowK_b (w := w) (Nat.le_refl _) _ D _ _ (by omega) hK2 rfl rfl)⟩
  case stop =>
    rintro D c' pre W hD hpre ⟨rfl, ⟨x, g5, cap5, rfl, hl, h3, hg5, hO⟩, h4, hB⟩ hK
    have HF0 := hid (show F = (x, 0) by
      obtain ⟨z, hz⟩ := hpre
      rw [← HF.out, ← hz]
      rfl)
    gi_wp2
    refine ⟨by simp, .inl ⟨_, _, rfl, run_takeDeferred hK, ?_⟩⟩
    simp at hD
    refine ⟨_, results_first rfl _ _ (w.heap.size + 1) (w.heap.size + 1 + 1) _ _ _ _ rfl rfl (h3.kept (grownBy_putObj' _ D (.deferred none)) (fun e => by have := Option.some.inj e; omega)) (h4.kept (grownBy_putObj' _ D (.deferred none)) (fun e => by have := Option.some.inj e; omega)), ?_⟩
    rw [HF0.out]
    have hne : g5 ≠ D := fun e => by
      subst e
      obtain ⟨cur, hc, _⟩ := hO
      rw [hK] at hc
      cases hc
    exact ⟨some ⟨g5, 0, none⟩, cap5, by rw [hl], by rw [hl]; exact FreshI.of_own (hO.keep (World.putObj_heap_other hne)) hl (by omega), hB.trans (belowK_b (w := w) (Nat.le_refl _) W D _ _ (by omega) hK rfl rfl)⟩

end Go.Proofs.Ytppkcpekknhbmaa
