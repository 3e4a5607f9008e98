/- NormalColourings in the program: the walk. -/
import Derived.Test.YtogdcoioflcdiaaNcA
namespace Go.Proofs.Ytogdcoioflcdiaa
open Go.RowKit Go.Shelf

attribute [local go_sem] Oper.semAt_some

/-- The two results, read out of their cells. -/
theorem results_lists {fn : Func} {p q : Tmp} (h : fn.results = #[.cell p 42, .cell q 2]) (tmps : Array Value) (w : World) (g1 g2 : Nat) (a : Option Addr) (n c : Nat) (y : Int) (h1 : tmps.getD p undef = .pointer (some ⟨g1, 0, none⟩)) (h2 : tmps.getD q undef = .pointer (some ⟨g2, 0, none⟩)) (hx : Boxed w g1 42 (.slice a n c)) (hy : Boxed w g2 2 (.int .i64 y)) :
    (results fn tmps).run Try.prog w = .ok (.tuple #[.slice a n c, .int .i64 y]) w := by
  have e1 : tmps[p]?.getD undef = .pointer (some ⟨g1, 0, none⟩) := by simpa using h1
  have e2 : tmps[q]?.getD undef = .pointer (some ⟨g2, 0, none⟩) := by simpa using h2
  have ha : (isAgg 2).run Try.prog w = .ok false w := by
    unfold isAgg
    rw [Sem.run_bind, run_underlying Try.underlying2 w]
    rfl
  have hb : (isAgg 42).run Try.prog w = .ok false w := by
    unfold isAgg
    rw [Sem.run_bind, run_underlying Try.underlying42 w]
    rfl
  have c1 := hx.cell
  have c2 := hy.cell
  simp [results, h, e1, e2, asAddr, loadVar, Sem.run_bind, ha, hb, c1, c2, Result.andThen]


set_option maxRecDepth 100000 in
set_option maxHeartbeats 8000000 in
theorem iNc_yes (s : Int) (b off n c : Nat) (es : List (Int × Int)) (w : World) (hn : es.length = n) (hr : ReadsE w b off es) (g : IsG s es) :
    Calls Try.prog 45 #[.agg #[.int .i64 s, .slice (some ⟨b, off, none⟩) n c]] w fun e' w' => ∃ q cap, e' = .returned (.tuple #[.slice q (ncF (nrmL es)).1.length cap, .int .i64 (ncF (nrmL es)).2]) ∧ FreshP w.heap.size w' q (ncF (nrmL es)).1.length (ncF (nrmL es)).1 ∧ Below w.heap.size w w' := by
  obtain ⟨F, hF⟩ : ∃ F, ncF (nrmL es) = F := ⟨_, rfl⟩
  rw [hF]
  have HF := hid hF
  clear hF
  have hn30 : n ≤ 30 := by have := isG_len g; omega
  have hbb : b < w.heap.size := reads_lt hr (by have := three_leN g; omega)
  have Hn := hid hn
  have Hr := hid hr
  have G := hid g
  obtain ⟨s0, hsi, hg0, hg1, hg2⟩ := info_parts infoSlN
  have Hs := hid hsi
  clear hn hr g hsi
  refine (callsIn_wide (n := 6)).1 ?_
  refine callsIn_of_wp_marks Try.func45 rfl trivial ?_ rfl
  simp only [Try.ntmps45, List.size_toArray, List.length_cons, List.length_nil, Nat.reduceAdd, Nat.reduceSub, Array.replicate_succ, Array.replicate_zero, List.push_toArray, List.append_toArray, List.nil_append, List.cons_append]
  obtain ⟨w1, hw1⟩ : ∃ w1, w1 = ((w.alloc (.cells #[.int .i64 s, .slice (some ⟨b, off, none⟩) n c] 31)).alloc (.cells #[.slice none 0 0] 42)).alloc (.cells #[.int .i64 0] 2) := ⟨_, rfl⟩
  have HB1 := hid (show Below w.heap.size w w1 by rw [hw1]; exact bfrom (bfrom (on_alloc _ _) (on_alloc _ _)) (on_alloc _ _))
  have HX1 := hid (show Box w1 w.heap.size s (some ⟨b, off, none⟩) n c by rw [hw1]; exact ((Box.new w s (some ⟨b, off, none⟩) n c 31).on (on_alloc _ _)).on (on_alloc _ _))
  have HP1 := hid (show Boxed w1 (w.heap.size + 1) 42 (.slice none 0 0) by rw [hw1]; exact (boxedN_at _ _ _ _ (by simp)).alloc _)
  have HQ1 := hid (show Boxed w1 (w.heap.size + 1 + 1) 2 (.int .i64 0) by rw [hw1]; exact boxedN_at _ _ _ _ (by simp))
  have HZ1 := hid (show w1.heap.size = w.heap.size + 3 by rw [hw1]; simp)
  gi_wp2
  rw [← hw1]
  clear hw1
  refine ⟨trivial, ?_⟩
  refine (callsIn_wide.2 (iIsGraph_any _ _ _ _ es w1 (by omega) Hn.out (.inr ⟨b, off, rfl, Hr.out.on HB1.out⟩))).mono ?_
  rw [decide_eq_true G.out]
  rintro e w2 ⟨rfl, hb2⟩
  have HX2 := hid (HX1.out.on hb2)
  have hx2 := HX2.out.1
  have hy2 := HX2.out.2
  have hz2 := HX2.out.lt
  have HP2 := hid (boxN_on HP1.out hb2)
  have HQ2 := hid (boxN_on HQ1.out hb2)
  have HB2 := hid (bfrom HB1.out hb2)
  have hs2 : w.heap.size + 3 ≤ w2.heap.size := by have := hb2.size; have := HZ1.out; omega
  clear hb2
  gi_wp2_with (refine ⟨trivial, ?_⟩; gi_at_call 89; refine (callsIn_wide.2 (iNormal_func _ _ _ _ _)).mono ?_; rintro e w' ⟨rfl, rfl⟩)
  have hG3 : ((w2.alloc (.cells #[.slice none 0 0] 42)).alloc (.cells #[.int .i64 s, .slice (some ⟨b, off, none⟩) n c] 31)).heap[w2.heap.size + 1]? = some (.cells #[.int .i64 s, .slice (some ⟨b, off, none⟩) n c] 31 (0, 0)) := by
    have h := World.alloc_heap_new (w2.alloc (.cells #[.slice none 0 0] 42)) (.cells #[.int .i64 s, .slice (some ⟨b, off, none⟩) n c] 31)
    rwa [World.size_alloc] at h
  refine rangeFunc_moves (n := 6) rfl (by omega) (gf := 136) (lb := #[.pointer (some ⟨w2.heap.size + 1, 0, none⟩)]) rfl trivial (enters_of Try.func136 (by kernel_rfl) rfl) (A := w2.heap.size + 4) (by simp)
    (nrm_moves 4 w2.heap.size (w2.heap.size + 4) (w2.heap.size + 1) b off n c s es _ (by simp; omega) (by simp) hG3 G.out Hn.out (by omega) (((Hr.out.on HB2.out).on (on_alloc _ _)).on (on_alloc _ _)))
    (fun h k => ⟨h.1.trans k.1, k.2.1.trans h.2.1, k.2.2.trans h.2.2⟩)
    (fun W l o o' h1 h2 hl ho => by
      simp at h1
      refine ⟨⟨by simp [World.putObj], fun i hi _ => World.putObj_heap_other (by omega), fun i cur t fr hi _ => World.putObj_heap_other (fun e => by
        subst e
        rw [hl] at hi
        cases hi
        cases ho)⟩, World.putObj_heap_other (by omega), World.putObj_heap_other (by omega)⟩)
    (fun Y Z i o h h1 h2 ho => (h.same i (by omega) (Array.getElem?_eq_some_iff.1 ho).1).trans ho) (fun Y Z h => h.size)
    (fun x W l o o' h h1 h2 hl ho => ⟨h.1.keep (World.putObj_heap_other (by omega)), h.2.1, by simpa [World.putObj] using h.2.2⟩) (Below.refl _ _) (fun _ => rfl)
    (fun (pre : List (List Int)) W => pre.length ≤ 200 ∧ NcAt n w2.heap.size (w2.heap.size + 4 + 2) pre W ∧ Boxed W (w.heap.size + 1) 42 (.slice none 0 0) ∧ Boxed W (w.heap.size + 1 + 1) 2 (.int .i64 0) ∧ Below w.heap.size w W)
    (fun c' pre W => (c' = .ret ∧ 200 < pre.length) ∧ Boxed W (w.heap.size + 1) 42 (.slice none 0 0) ∧ Boxed W (w.heap.size + 1 + 1) 2 (.int .i64 3) ∧ Below w.heap.size w W)
    (OwnFrom.and (ownFrom_pure _ (fun (pre : List (List Int)) => pre.length ≤ 200)) (OwnFrom.and (Own.from (ncAt_own _ _ _) _) (OwnFrom.and (Own.from (boxed_own _ _ (fun _ => _)) _) (OwnFrom.and (Own.from (boxed_own _ _ (fun _ => _)) _) (ownFrom_below (Nat.le_refl _) (by simp; omega))))))
    (fun c' => OwnFrom.and (ownFrom_pure _ (fun (pre : List (List Int)) => c' = .ret ∧ 200 < pre.length)) (OwnFrom.and (Own.from (boxed_own _ _ (fun _ => _)) _) (OwnFrom.and (Own.from (boxed_own _ _ (fun _ => _)) _) (ownFrom_below (Nat.le_refl _) (by simp; omega)))))
    (fun s Y Z h hm => ⟨h.1, h.2.1.same (fun k _ _ _ h1 h2 => hm.same k (by omega) (Array.getElem?_eq_some_iff.1 h2).1), boxN_moved h.2.2.1 hm (by omega), boxN_moved h.2.2.2.1 hm (by omega), h.2.2.2.2.trans (hm.below (fun i hi => by omega) h.2.2.2.2.size)⟩)
    (fun c' s Y Z h hm => ⟨h.1, boxN_moved h.2.1 hm (by omega), boxN_moved h.2.2.1 hm (by omega), h.2.2.2.trans (hm.below (fun i hi => by omega) h.2.2.2.size)⟩)
    ⟨by simp, ⟨.slice none 0 0, fun _ => 0, fun _ => 0, (boxedN_at _ _ _ _ rfl).alloc _, World.ownsRow_nil _ _ _ _, ⟨fun i hi => by simp at hi, fun i k hi => by simp at hi⟩⟩, (HP2.out.alloc _).alloc _, (HQ2.out.alloc _).alloc _, bfrom (bfrom HB2.out (on_alloc _ _)) (on_alloc _ _)⟩
    ?a1 ?assign ?body ?done ?stop
  case assign =>
    intro l x W K hK
    gi_wp2
    exact hK
  case body =>
    rintro l pre x W ⟨hp2, ⟨u, gf, cf, hu, hrow, hR⟩, h3, h4, hB⟩ hX hA hlt
    obtain ⟨k, hk⟩ : ∃ k, pre.length = k := ⟨_, rfl⟩
    rw [hk] at hp2 hrow hlt
    obtain ⟨q, cap, rfl⟩ := row_formN hrow
    have HX := hid hX
    have H3 := hid h3
    have H4 := hid h4
    have HBW := hid hB
    have HU := hid hu
    have HRow := hid hrow
    have HR := hid hR
    have HK := hid hk
    have hcu := hu.cell
    have hfu := hu.frozen
    have hzu := hu.lt
    have hz3 := h3.lt
    have hz4 := h4.lt
    have hc3 := h3.cell
    have hc4 := h4.cell
    have hf3 := h3.frozen
    have hf4 := h4.frozen
    have hzX := hX.2.2
    have hzW := hB.size
    clear h3 h4 hB hX hu hrow hR hk
    by_cases hlt2 : k < 200
    · have hne : ¬ ((k : Int) = 200) := by omega
      have hn3 := three_leN G.out
      have hn4 : 0 < n := by have := Hn.out; omega
      gi_wp2
      have hmix : Try.prog.follows .mixedOrders = true := by kernel_rfl
      refine wpIn_region_any hmix ?_
      (try (change wpAnyIn _ _ _ _ _ _ _ _ _ (World.drew _)))
      refine wpAnyIn_ready (rs := [0, 1]) (by kernel_rfl) (by simp) ?_
      refine AllReadyIn.cons rfl (fun K hK => ?_) ?_
      · go_simp
        refine hK _ _ ?_
        clear hK K
        refine wpAnyIn_ready (rs := [1]) (by kernel_rfl) (by simp) ?_
        refine AllReadyIn.cons rfl (fun K hK => ?_) ?_
        · go_simp
          refine hK _ _ ?_
          clear hK K
          refine wpAnyIn_ready (rs := [2]) (by kernel_rfl) (by simp) ?_
          refine AllReadyIn.cons rfl (fun K hK => ?_) ?_
          · go_simp
            refine ⟨trivial, ?_⟩
            gi_at_call 90
            refine (callsIn_wide.2 (cloneN_row (w2.heap.size + 4) 0 n n x _ HX.out.2.1 (by omega) (HX.out.1.on (Below.refl _ _).drew).reads)).mono ?_
            rintro e' W5 ⟨q5, cap5, rfl, hf5, hb5⟩
            obtain ⟨g5, rfl, hg5, ho5⟩ := fresh_some hf5 hn4
            have HB5 := hid (show Below W.heap.size W W5 from ⟨hb5.os, hb5.tape, hb5.output, hb5.size, hb5.block⟩)
            have HG5 := hid (show W.heap.size ≤ g5 from hg5)
            have HO5 := hid ho5
            have HRow5 := hid (rowN_same HRow.out (fun k' _ _ _ _ h2 => HB5.out.block k' (Array.getElem?_eq_some_iff.1 h2).1))
            have HU5 := hid (boxN_on HU.out HB5.out)
            have hcu5 := HU5.out.cell
            have hfu5 := HU5.out.frozen
            have hzu5 := HU5.out.lt
            have hzW5 := HB5.out.size
            have hzr5 : ∀ j, (Value.slice q k cap).ownBlock = some j → w2.heap.size + 4 + 2 ≤ j ∧ j < W5.heap.size := HRow5.out.lt
            clear hf5 hb5 hg5 ho5
            refine hK _ _ ?_
            clear hK K
            refine wpAnyIn_ready (rs := [3]) (by kernel_rfl) (by simp) ?_
            refine AllReadyIn.cons rfl (fun K hK => ?_) ?_
            · go_simp
              refine hK _ _ ?_
              clear hK K
              refine wpAnyIn_ready (rs := [4]) (by kernel_rfl) (by simp) ?_
              refine AllReadyIn.cons rfl (fun K hK => ?_) ?_
              · refine stepIn_append_own rfl (.tmp 15) (.tmp 18) 42 rfl (w2.heap.size + 4 + 2) 25 s0 (.slice none 0 0) 1 24 Try.underlying42 Hs.out hg0 hg1 hg2 rfl (by decide) (.slice q k cap) k (rowsN n gf cf k) rfl (HRow5.out.alloc _) ⟨W5.heap.size, 0, none⟩ 1 1 [.slice (some ⟨g5, 0, none⟩) n cap5] rfl rfl (cell_one_new _ _ _) (by simp [Value.oneCell']) (by unfold maxLen; omega) (by omega) (by rw [World.size_alloc]; omega) ?_
                intro v' w9 hown9 hgrow9
                obtain ⟨g9, cap9, rfl⟩ := ownsRow_succ hown9
                have hu9 := (HU5.out.alloc _).kept hgrow9 (HU5.out.not_row (by decide) HRow5.out)
                have hcu9 := hu9.cell
                have hfu9 := hu9.frozen
                have hzu9 := hu9.lt
                refine hK _ _ ?_
                clear hK K
                refine wpAnyIn_ready (rs := [5]) (by kernel_rfl) (by simp) ?_
                refine AllReadyIn.cons rfl (fun K hK => ?_) ?_
                · go_simp
                  refine hK _ _ ?_
                  clear hK K
                  refine wpAnyIn_done (by kernel_rfl) ?_ _
                  gi_wp2
                  obtain ⟨f1, f2, f3, f4⟩ := nc_push (n := n) (n0 := w2.heap.size) (B := w2.heap.size) (Ab := w2.heap.size + 4) (k := k) HU.out HRow.out HK.out HR.out HX.out.2.1 HB5.out HO5.out HG5.out (by omega) (by omega) (Nat.le_refl _) (on_alloc W5 _) hown9 hgrow9
                  exact ⟨f1 _, f2, by rw [List.length_append, HK.out]; show k + 1 ≤ 200; omega, f3, (f4.block _ (by omega)).trans H3.out, (f4.block _ (by omega)).trans H4.out, HBW.out.trans (f4.mono (by omega))⟩
                exact AllReadyIn.nil
              exact AllReadyIn.nil
            exact AllReadyIn.nil
          exact AllReadyIn.nil
        exact AllReadyIn.nil
      refine AllReadyIn.cons rfl (fun K hK => ?_) ?_
      · go_simp
        refine hK _ _ ?_
        clear hK K
        refine wpAnyIn_ready (rs := [0, 2]) (by kernel_rfl) (by simp) ?_
        refine AllReadyIn.cons rfl (fun K hK => ?_) ?_
        · go_simp
          refine hK _ _ ?_
          clear hK K
          refine wpAnyIn_ready (rs := [2]) (by kernel_rfl) (by simp) ?_
          refine AllReadyIn.cons rfl (fun K hK => ?_) ?_
          · go_simp
            refine ⟨trivial, ?_⟩
            gi_at_call 90
            refine (callsIn_wide.2 (cloneN_row (w2.heap.size + 4) 0 n n x _ HX.out.2.1 (by omega) (HX.out.1.on (Below.refl _ _).drew).reads)).mono ?_
            rintro e' W5 ⟨q5, cap5, rfl, hf5, hb5⟩
            obtain ⟨g5, rfl, hg5, ho5⟩ := fresh_some hf5 hn4
            have HB5 := hid (show Below W.heap.size W W5 from ⟨hb5.os, hb5.tape, hb5.output, hb5.size, hb5.block⟩)
            have HG5 := hid (show W.heap.size ≤ g5 from hg5)
            have HO5 := hid ho5
            have HRow5 := hid (rowN_same HRow.out (fun k' _ _ _ _ h2 => HB5.out.block k' (Array.getElem?_eq_some_iff.1 h2).1))
            have HU5 := hid (boxN_on HU.out HB5.out)
            have hcu5 := HU5.out.cell
            have hfu5 := HU5.out.frozen
            have hzu5 := HU5.out.lt
            have hzW5 := HB5.out.size
            have hzr5 : ∀ j, (Value.slice q k cap).ownBlock = some j → w2.heap.size + 4 + 2 ≤ j ∧ j < W5.heap.size := HRow5.out.lt
            clear hf5 hb5 hg5 ho5
            refine hK _ _ ?_
            clear hK K
            refine wpAnyIn_ready (rs := [3]) (by kernel_rfl) (by simp) ?_
            refine AllReadyIn.cons rfl (fun K hK => ?_) ?_
            · go_simp
              refine hK _ _ ?_
              clear hK K
              refine wpAnyIn_ready (rs := [4]) (by kernel_rfl) (by simp) ?_
              refine AllReadyIn.cons rfl (fun K hK => ?_) ?_
              · refine stepIn_append_own rfl (.tmp 15) (.tmp 18) 42 rfl (w2.heap.size + 4 + 2) 25 s0 (.slice none 0 0) 1 24 Try.underlying42 Hs.out hg0 hg1 hg2 rfl (by decide) (.slice q k cap) k (rowsN n gf cf k) rfl (HRow5.out.alloc _) ⟨W5.heap.size, 0, none⟩ 1 1 [.slice (some ⟨g5, 0, none⟩) n cap5] rfl rfl (cell_one_new _ _ _) (by simp [Value.oneCell']) (by unfold maxLen; omega) (by omega) (by rw [World.size_alloc]; omega) ?_
                intro v' w9 hown9 hgrow9
                obtain ⟨g9, cap9, rfl⟩ := ownsRow_succ hown9
                have hu9 := (HU5.out.alloc _).kept hgrow9 (HU5.out.not_row (by decide) HRow5.out)
                have hcu9 := hu9.cell
                have hfu9 := hu9.frozen
                have hzu9 := hu9.lt
                refine hK _ _ ?_
                clear hK K
                refine wpAnyIn_ready (rs := [5]) (by kernel_rfl) (by simp) ?_
                refine AllReadyIn.cons rfl (fun K hK => ?_) ?_
                · go_simp
                  refine hK _ _ ?_
                  clear hK K
                  refine wpAnyIn_done (by kernel_rfl) ?_ _
                  gi_wp2
                  obtain ⟨f1, f2, f3, f4⟩ := nc_push (n := n) (n0 := w2.heap.size) (B := w2.heap.size) (Ab := w2.heap.size + 4) (k := k) HU.out HRow.out HK.out HR.out HX.out.2.1 HB5.out HO5.out HG5.out (by omega) (by omega) (Nat.le_refl _) (on_alloc W5 _) hown9 hgrow9
                  exact ⟨f1 _, f2, by rw [List.length_append, HK.out]; show k + 1 ≤ 200; omega, f3, (f4.block _ (by omega)).trans H3.out, (f4.block _ (by omega)).trans H4.out, HBW.out.trans (f4.mono (by omega))⟩
                exact AllReadyIn.nil
              exact AllReadyIn.nil
            exact AllReadyIn.nil
          exact AllReadyIn.nil
        refine AllReadyIn.cons rfl (fun K hK => ?_) ?_
        · go_simp
          refine ⟨trivial, ?_⟩
          gi_at_call 90
          refine (callsIn_wide.2 (cloneN_row (w2.heap.size + 4) 0 n n x _ HX.out.2.1 (by omega) (HX.out.1.on (Below.refl _ _).drew).reads)).mono ?_
          rintro e' W5 ⟨q5, cap5, rfl, hf5, hb5⟩
          obtain ⟨g5, rfl, hg5, ho5⟩ := fresh_some hf5 hn4
          have HB5 := hid (show Below W.heap.size W W5 from ⟨hb5.os, hb5.tape, hb5.output, hb5.size, hb5.block⟩)
          have HG5 := hid (show W.heap.size ≤ g5 from hg5)
          have HO5 := hid ho5
          have HRow5 := hid (rowN_same HRow.out (fun k' _ _ _ _ h2 => HB5.out.block k' (Array.getElem?_eq_some_iff.1 h2).1))
          have HU5 := hid (boxN_on HU.out HB5.out)
          have hcu5 := HU5.out.cell
          have hfu5 := HU5.out.frozen
          have hzu5 := HU5.out.lt
          have hzW5 := HB5.out.size
          have hzr5 : ∀ j, (Value.slice q k cap).ownBlock = some j → w2.heap.size + 4 + 2 ≤ j ∧ j < W5.heap.size := HRow5.out.lt
          clear hf5 hb5 hg5 ho5
          refine hK _ _ ?_
          clear hK K
          refine wpAnyIn_ready (rs := [0, 3]) (by kernel_rfl) (by simp) ?_
          refine AllReadyIn.cons rfl (fun K hK => ?_) ?_
          · go_simp
            refine hK _ _ ?_
            clear hK K
            refine wpAnyIn_ready (rs := [3]) (by kernel_rfl) (by simp) ?_
            refine AllReadyIn.cons rfl (fun K hK => ?_) ?_
            · go_simp
              refine hK _ _ ?_
              clear hK K
              refine wpAnyIn_ready (rs := [4]) (by kernel_rfl) (by simp) ?_
              refine AllReadyIn.cons rfl (fun K hK => ?_) ?_
              · refine stepIn_append_own rfl (.tmp 15) (.tmp 18) 42 rfl (w2.heap.size + 4 + 2) 25 s0 (.slice none 0 0) 1 24 Try.underlying42 Hs.out hg0 hg1 hg2 rfl (by decide) (.slice q k cap) k (rowsN n gf cf k) rfl (HRow5.out.alloc _) ⟨W5.heap.size, 0, none⟩ 1 1 [.slice (some ⟨g5, 0, none⟩) n cap5] rfl rfl (cell_one_new _ _ _) (by simp [Value.oneCell']) (by unfold maxLen; omega) (by omega) (by rw [World.size_alloc]; omega) ?_
                intro v' w9 hown9 hgrow9
                obtain ⟨g9, cap9, rfl⟩ := ownsRow_succ hown9
                have hu9 := (HU5.out.alloc _).kept hgrow9 (HU5.out.not_row (by decide) HRow5.out)
                have hcu9 := hu9.cell
                have hfu9 := hu9.frozen
                have hzu9 := hu9.lt
                refine hK _ _ ?_
                clear hK K
                refine wpAnyIn_ready (rs := [5]) (by kernel_rfl) (by simp) ?_
                refine AllReadyIn.cons rfl (fun K hK => ?_) ?_
                · go_simp
                  refine hK _ _ ?_
                  clear hK K
                  refine wpAnyIn_done (by kernel_rfl) ?_ _
                  gi_wp2
                  obtain ⟨f1, f2, f3, f4⟩ := nc_push (n := n) (n0 := w2.heap.size) (B := w2.heap.size) (Ab := w2.heap.size + 4) (k := k) HU.out HRow.out HK.out HR.out HX.out.2.1 HB5.out HO5.out HG5.out (by omega) (by omega) (Nat.le_refl _) (on_alloc W5 _) hown9 hgrow9
                  exact ⟨f1 _, f2, by rw [List.length_append, HK.out]; show k + 1 ≤ 200; omega, f3, (f4.block _ (by omega)).trans H3.out, (f4.block _ (by omega)).trans H4.out, HBW.out.trans (f4.mono (by omega))⟩
                exact AllReadyIn.nil
              exact AllReadyIn.nil
            exact AllReadyIn.nil
          refine AllReadyIn.cons rfl (fun K hK => ?_) ?_
          · go_simp
            refine hK _ _ ?_
            clear hK K
            refine wpAnyIn_ready (rs := [0]) (by kernel_rfl) (by simp) ?_
            refine AllReadyIn.cons rfl (fun K hK => ?_) ?_
            · go_simp
              refine hK _ _ ?_
              clear hK K
              refine wpAnyIn_ready (rs := [4]) (by kernel_rfl) (by simp) ?_
              refine AllReadyIn.cons rfl (fun K hK => ?_) ?_
              · refine stepIn_append_own rfl (.tmp 15) (.tmp 18) 42 rfl (w2.heap.size + 4 + 2) 25 s0 (.slice none 0 0) 1 24 Try.underlying42 Hs.out hg0 hg1 hg2 rfl (by decide) (.slice q k cap) k (rowsN n gf cf k) rfl (HRow5.out.alloc _) ⟨W5.heap.size, 0, none⟩ 1 1 [.slice (some ⟨g5, 0, none⟩) n cap5] rfl rfl (cell_one_new _ _ _) (by simp [Value.oneCell']) (by unfold maxLen; omega) (by omega) (by rw [World.size_alloc]; omega) ?_
                intro v' w9 hown9 hgrow9
                obtain ⟨g9, cap9, rfl⟩ := ownsRow_succ hown9
                have hu9 := (HU5.out.alloc _).kept hgrow9 (HU5.out.not_row (by decide) HRow5.out)
                have hcu9 := hu9.cell
                have hfu9 := hu9.frozen
                have hzu9 := hu9.lt
                refine hK _ _ ?_
                clear hK K
                refine wpAnyIn_ready (rs := [5]) (by kernel_rfl) (by simp) ?_
                refine AllReadyIn.cons rfl (fun K hK => ?_) ?_
                · go_simp
                  refine hK _ _ ?_
                  clear hK K
                  refine wpAnyIn_done (by kernel_rfl) ?_ _
                  gi_wp2
                  obtain ⟨f1, f2, f3, f4⟩ := nc_push (n := n) (n0 := w2.heap.size) (B := w2.heap.size) (Ab := w2.heap.size + 4) (k := k) HU.out HRow.out HK.out HR.out HX.out.2.1 HB5.out HO5.out HG5.out (by omega) (by omega) (Nat.le_refl _) (on_alloc W5 _) hown9 hgrow9
                  exact ⟨f1 _, f2, by rw [List.length_append, HK.out]; show k + 1 ≤ 200; omega, f3, (f4.block _ (by omega)).trans H3.out, (f4.block _ (by omega)).trans H4.out, HBW.out.trans (f4.mono (by omega))⟩
                exact AllReadyIn.nil
              exact AllReadyIn.nil
            exact AllReadyIn.nil
          exact AllReadyIn.nil
        exact AllReadyIn.nil
      exact AllReadyIn.nil
    · have heq : (k : Int) = 200 := by omega
      gi_wp2
      exact ⟨((KeepsOthers.setCell _ _ _).trans (KeepsOthers.setCell _ _ _)).from _, ⟨rfl, by rw [List.length_append, HK.out]; show 200 < k + 1; omega⟩, (Boxed.set _ H3.out).other (by omega) _, Boxed.set _ (H4.out.other (by omega) _), ((HBW.out.setCell (p := ⟨w.heap.size + 1, 0, none⟩) (by show w.heap.size ≤ w.heap.size + 1; omega) _).setCell (p := ⟨w.heap.size + 1 + 1, 0, none⟩) (by show w.heap.size ≤ w.heap.size + 1 + 1; omega) _)⟩
  case done =>
    rintro D ys W hD hS ⟨hp2, ⟨u, gf, cf, hu, hrow, hR⟩, h3, h4, hB⟩ hK
    obtain ⟨k, hk⟩ : ∃ k, ys.length = k := ⟨_, rfl⟩
    rw [hk] at hp2 hrow
    obtain ⟨q, cap, rfl⟩ := row_formN hrow
    have HF0 := hid (show F = (ys, 0) by rw [← HF.out, ← hS]; unfold ncF; rw [if_pos (by omega)])
    have hcu := hu.cell
    have hzu := hu.lt
    have hc3 := h3.cell
    have hc4 := h4.cell
    have hf3 := h3.frozen
    have hf4 := h4.frozen
    have hz3 := h3.lt
    have hz4 := h4.lt
    simp at hD
    obtain ⟨W2, hW2⟩ : ∃ W2, (W.setCell ⟨w.heap.size + 1, 0, none⟩ (.slice q k cap)).setCell ⟨w.heap.size + 1 + 1, 0, none⟩ (.int .i64 0) = W2 := ⟨_, rfl⟩
    have b3 : Boxed W2 (w.heap.size + 1) 42 (.slice q k cap) := by rw [← hW2]; exact (Boxed.set _ h3).other (by omega) _
    have b4 : Boxed W2 (w.heap.size + 1 + 1) 2 (.int .i64 0) := by rw [← hW2]; exact Boxed.set _ (h4.other (by omega) _)
    have hoth : ∀ k', w2.heap.size ≤ k' → W2.heap[k']? = W.heap[k']? := fun k' h1 => by
      rw [← hW2]
      exact (heap_setCell_other _ _ k' _ (by show k' ≠ w.heap.size + 1 + 1; omega)).trans (heap_setCell_other _ _ k' _ (by show k' ≠ w.heap.size + 1; omega))
    have hK2 : W2.heap[D]? = some (.deferred (some [])) := (hoth D (by omega)).trans hK
    have hBB : Below w.heap.size w W2 := by
      rw [← hW2]
      exact (hB.setCell (p := ⟨w.heap.size + 1, 0, none⟩) (by show w.heap.size ≤ w.heap.size + 1; omega) _).setCell (p := ⟨w.heap.size + 1 + 1, 0, none⟩) (by show w.heap.size ≤ w.heap.size + 1 + 1; omega) _
    have hsame : ∀ k' cur t fr, w2.heap.size + 4 + 2 ≤ k' → W.heap[k']? = some (Obj.cells cur t fr) → (W2.putObj D (.deferred none)).heap[k']? = W.heap[k']? := fun k' cur t fr h1 h2 => (World.putObj_heap_other (fun e => by
      subst e
      rw [h2] at hK
      cases hK)).trans (hoth k' (by omega))
    have hfr : FreshP w.heap.size (W2.putObj D (.deferred none)) q k ys := (hR.same hsame).fresh (rowN_same hrow hsame) hk (by omega)
    clear hrow hR hu hB hsame hoth
    gi_wp2

    refine ⟨by simp, .inl ⟨_, _, rfl, run_takeDeferred hK2, ?_⟩⟩
    refine ⟨_, results_lists rfl _ _ (w.heap.size + 1) (w.heap.size + 1 + 1) _ _ _ _ rfl rfl (b3.kept (grownBy_putObj' _ D (.deferred none)) (fun e => by have := Option.some.inj e; omega)) (b4.kept (grownBy_putObj' _ D (.deferred none)) (fun e => by have := Option.some.inj e; omega)), ?_⟩
    rw [HF0.out]
    exact ⟨q, cap, by rw [hk], by rw [hk]; exact hfr, hBB.trans (belowK_b (w := w) (Nat.le_refl _) _ D _ _ (by omega) hK2 rfl rfl)⟩
  case stop =>
    rintro D c' pre W hD hpre ⟨⟨rfl, hp⟩, h3, h4, hB⟩ hK
    have HF0 := hid (show F = ([], 3) by
      obtain ⟨z, hz⟩ := hpre
      have hl : (nrmL es).length = pre.length + z.length := by rw [← hz, List.length_append]
      rw [← HF.out]
      unfold ncF
      rw [if_neg (by omega)])
    gi_wp2
    refine ⟨by simp, .inl ⟨_, _, rfl, run_takeDeferred hK, ?_⟩⟩
    simp at hD
    refine ⟨_, results_lists rfl _ _ (w.heap.size + 1) (w.heap.size + 1 + 1) _ _ _ _ rfl rfl (h3.kept (grownBy_putObj' _ D (.deferred none)) (fun e => by have := Option.some.inj e; omega)) (h4.kept (grownBy_putObj' _ D (.deferred none)) (fun e => by have := Option.some.inj e; omega)), ?_⟩
    rw [HF0.out]
    exact ⟨none, 0, rfl, ⟨rfl, .inl rfl⟩, hB.trans (belowK_b (w := w) (Nat.le_refl _) W D _ _ (by omega) hK rfl rfl)⟩

end Go.Proofs.Ytogdcoioflcdiaa
