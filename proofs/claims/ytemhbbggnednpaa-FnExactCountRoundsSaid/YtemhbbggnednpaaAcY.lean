/- CyclesByLength and CountRounds in the model. -/
import Derived.Test.YtemhbbggnednpaaAcX
import Derived.Test.YtemhbbggnednpaaAcK
namespace Go.Proofs.Ytemhbbggnednpaa
open Go.RowKit

set_option maxRecDepth 100000 in
set_option maxHeartbeats 2000000 in
theorem sSmall9_any (s : Int) (p : Option Addr) (n c : Nat) (es : List (Int × Int)) (w : World) (hm : n ≤ 1048576) (hn : es.length = n) (hr : SeesE w p es) :
    Calls Try.prog 67 #[.agg #[.int .i64 s, .slice p n c]] w fun e w' => e = .returned (.int .i64 (expCode s es)) ∧ Below w.heap.size w w' := by
  have Hn := hid hn
  have Hr := hid hr
  clear hn hr
  unfold expCode
  by_cases g : IsG s es
  · rw [if_pos g]
    have G := hid g
    by_cases h : s ≤ 12
    · rw [if_pos h]
      have hd : decide (12 < s) = false := decide_eq_false (by omega)
      clear h g
      go_enter Try.func67, Try.ntmps67
      go_wp2_with fail
      refine (sIs_any _ _ _ _ es _ (by omega) Hn.out (Hr.out.on (on_alloc _ _))).mono ?_
      rw [decide_eq_true G.out]
      rintro e' w2 ⟨rfl, hb2⟩
      have HX := hid ((Box.new w s p n c 28).on hb2)
      have HB := hid (bfrom (w := w) (on_alloc _ _) hb2)
      have hx := HX.out.1
      have hl := HX.out.lt
      clear hb2
      go_wp2
      go_ret
      exact ⟨rfl, HB.out⟩
    · rw [if_neg h]
      have hd : decide (12 < s) = true := decide_eq_true (by omega)
      clear h g
      go_enter Try.func67, Try.ntmps67
      go_wp2_with fail
      refine (sIs_any _ _ _ _ es _ (by omega) Hn.out (Hr.out.on (on_alloc _ _))).mono ?_
      rw [decide_eq_true G.out]
      rintro e' w2 ⟨rfl, hb2⟩
      have HX := hid ((Box.new w s p n c 28).on hb2)
      have HB := hid (bfrom (w := w) (on_alloc _ _) hb2)
      have hx := HX.out.1
      have hl := HX.out.lt
      clear hb2
      go_wp2
      go_ret
      exact ⟨rfl, HB.out⟩
  · rw [if_neg g]
    have G := hid g
    clear g
    go_enter Try.func67, Try.ntmps67
    go_wp2_with fail
    refine (sIs_any _ _ _ _ es _ (by omega) Hn.out (Hr.out.on (on_alloc _ _))).mono ?_
    rw [decide_eq_false G.out]
    rintro e' w2 ⟨rfl, hb2⟩
    have HB := hid (bfrom (w := w) (on_alloc _ _) hb2)
    clear hb2
    go_wp2
    go_ret
    exact ⟨rfl, HB.out⟩

set_option maxRecDepth 100000 in
set_option maxHeartbeats 4000000 in
theorem sCyclesByLength_any (s : Int) (p : Option Addr) (n c : Nat) (es : List (Int × Int)) (w : World) (hm : n ≤ 1048576) (hn : es.length = n) (hr : SeesE w p es) :
    Calls Try.prog 25 #[.agg #[.int .i64 s, .slice p n c]] w fun e w' => ∃ q cap, e = .returned (.tuple #[.slice q (fCyclesByLength s es).1.length cap, .int .i64 (fCyclesByLength s es).2]) ∧ FreshI w.heap.size w' q (fCyclesByLength s es).1.length cap (fCyclesByLength s es).1 ∧ Below w.heap.size w w' := by
  unfold fCyclesByLength
  obtain ⟨x, hx⟩ : ∃ x, expCode s es = x := ⟨_, rfl⟩
  have HX := hid hx
  have Hn := hid hn
  by_cases h0 : x = 0
  · obtain ⟨g, hs12⟩ := exp_zero (hx.trans h0)
    rw [hx, if_pos h0]
    obtain ⟨b, off, rfl, rd⟩ := isG_sees g hr
    obtain ⟨N, hN⟩ : ∃ N : Nat, (N : Int) = s := ⟨s.toNat, Int.toNat_of_nonneg (by have := g.1.1.1; omega)⟩
    have HR := hid rd
    have Hr := hid hr
    have HN := hid hN
    have HN20 := hid (show N ≤ 12 by omega)
    have G := hid (show IsG (N : Int) es by rw [hN]; exact g)
    have HCb := hid (show cblF s es = lensL N (acL es N n) by unfold cblF; rw [← hN, Int.toNat_natCast, hn])
    have HCl := hid (show (cblF s es).length = N + 1 by rw [HCb.out, lensL_len])
    dsimp only
    rw [HCl.out]
    clear hn hr hx g rd hN hs12
    go_enter Try.func25, Try.ntmps25
    go_wp2_with fail
    refine (sSmall9_any s _ n c es _ hm Hn.out (Hr.out.on (on_alloc _ _))).mono ?_
    rw [HX.out, h0]
    rintro e' w2 ⟨rfl, hb2⟩
    have HBx := hid ((Box.new w s (some ⟨b, off, none⟩) n c 28).on hb2)
    have HB := hid (bfrom (w := w) (on_alloc _ _) hb2)
    have hx1 := HBx.out.1
    have hx2 := HBx.out.2
    have hl := HBx.out.lt
    clear hb2
    obtain ⟨j0, hj, hy0, hy1, hy2⟩ := info_parts infoInt
    have hmk0 : ∀ w', (Instr.makeSlice 38 (.int .i64 (s + 1)) (.int .i64 (s + 1))).run Try.prog w' = .ok (.slice (some ⟨w'.heap.size, 0, none⟩) (N + 1) (N + 1)) (w'.alloc (.cells (madeCells (Value.int .i64 0).cells ((N + 1) * 1)) 2)) := fun w' => by
      have h := run_makeSlice (P := Try.prog) w' 38 2 j0 (.int .i64 0) Try.underlying38 hj hy0 .i64 .i64 (N + 1 : Nat) (N + 1 : Nat) (by omega) (Int.le_refl _) (by rw [hy1]; have := HN20.out; omega) (by rw [hy2]; have := HN20.out; omega) (by have := HN20.out; omega)
      rw [hy1] at h
      rw [← HN.out, show ((N : Int) + 1) = ((N + 1 : Nat) : Int) by omega]
      simpa using h
    obtain ⟨ZC, hZC⟩ : ∃ ZC, ZC = madeCells (Value.int .i64 0).cells ((N + 1) * 1) := ⟨_, rfl⟩
    have hmk : ∀ w', (Instr.makeSlice 38 (.int .i64 (s + 1)) (.int .i64 (s + 1))).run Try.prog w' = .ok (.slice (some ⟨w'.heap.size, 0, none⟩) (N + 1) (N + 1)) (w'.alloc (.cells ZC 2)) := by rw [hZC]; exact hmk0
    have HZC := hid hZC
    have e1 : IntKind.i64.wrap (s + 1) = s + 1 := IntWalk.i64_in _ (by have := HN20.out; have := HN.out; omega)
    clear hj hmk0 hZC
    have h1 := sAll_any N b off n c es w2.drew Hn.out (HR.out.on HB.out.drew) G.out
    have h2 := sAll_any N b off n c es (w2.alloc (.cells ZC 2)).drew Hn.out (HR.out.on (bfrom HB.out (on_alloc _ _)).drew) G.out
    rw [HN.out] at h1 h2
    have HC1 := hid h1
    have HC2 := hid h2
    clear h1 h2
    go_upto_region 4 with fail
    go_cut [5, 6] (fun u1 u2 wx => ∃ (q : Option Addr) (P cap gm : Nat) (ps : List AcP), u1 = .slice q P cap ∧ u2 = .slice (some ⟨gm, 0, none⟩) (N + 1) (N + 1) ∧ Hid (ps.length = P ∧ ps.map (fun p => p.2.2) = acL es N n) ∧ Hid (wx.ownsRow w2.heap.size 38 1 (.slice q P cap) P (ps.map acV)) ∧ Hid (w2.heap.size ≤ gm ∧ OwnI wx gm (N + 1) (List.replicate (N + 1) 0)) ∧ Hid (Below w2.heap.size w2 wx))
    case first =>
      go_region_with (first
        | (go_at_call 68; refine HC1.out.mono ?_; rintro e' w3 ⟨q, cap, ps, rfl, hrow, hcon, hat, hb3⟩; have HB3 := hid (show Below w2.heap.size w2 w3 from bfrom (Below.refl w2.heap.size w2).drew hb3); have HRow := hid hrow; have HCon := hid hcon; have hx3 := ((bcells HB3.out).1 _ 0 hl).trans hx1; have hy3 := ((bcells HB3.out).1 _ 1 hl).trans hx2; have hl3 : w.heap.size < w3.heap.size := Nat.lt_of_lt_of_le hl HB3.out.size; clear hrow hcon hat)
        | (go_at_call 68; refine HC2.out.mono ?_; rintro e' w3 ⟨q, cap, ps, rfl, hrow, hcon, hat, hb3⟩; have HB3 := hid (show Below w2.heap.size w2 w3 from bfrom (on_alloc w2 (.cells ZC 2)).drew hb3); have HRow := hid hrow; have HCon := hid hcon; have hx3 := ((bcells HB3.out).1 _ 0 hl).trans hx1; have hy3 := ((bcells HB3.out).1 _ 1 hl).trans hx2; have hl3 : w.heap.size < w3.heap.size := Nat.lt_of_lt_of_le hl HB3.out.size; clear hrow hcon hat))
      all_goals (go_wp2_with fail; go_meet; first
        | (clear hb3; exact ⟨q, ps.length, cap, w3.heap.size, ps, rfl, rfl, hid ⟨rfl, HCon.out⟩, hid (rowA_less (rowN_same HRow.out (fun i cur t fr _ hc => Below.heap_alloc _ _ i (Array.getElem?_eq_some_iff.1 hc).1)) (by first | exact Nat.le_refl _ | (simp; done) | (simp; omega))), hid ⟨HB3.out.size, own_zerosA _ _ _ HZC.out rfl (by have := HN20.out; omega)⟩, hid (bfrom HB3.out (on_alloc _ _))⟩)
        | (exact ⟨q, ps.length, cap, w2.heap.size, ps, rfl, rfl, hid ⟨rfl, HCon.out⟩, hid (rowA_less HRow.out (by first | exact Nat.le_refl _ | (simp; done) | (simp; omega))), hid ⟨Nat.le_refl _, OwnI.on (w := (w2.alloc (.cells ZC 2))) (own_zerosA w2 _ _ HZC.out rfl (by have := HN20.out; omega)) ⟨hb3.os, hb3.tape, hb3.output, hb3.size, hb3.block⟩⟩, HB3⟩))
    case rest =>
    obtain ⟨q, P, cap, gm, ps, rfl, rfl, hPs, hRw, hGm, hBw⟩ := hcut
    obtain ⟨w4, rfl⟩ : ∃ w4, w4 = wc := ⟨_, rfl⟩
    obtain ⟨FF, hFF⟩ : ∃ FF, acL es N n = FF := ⟨_, rfl⟩
    have HFF := hid hFF
    have HCn := hid (hPs.out.2.trans hFF)
    have HFl := hid (show FF.length = P by rw [← HCn.out, List.length_map]; exact hPs.out.1)
    have HPb := hid (show P ≤ 104603532030 by rw [← HFl.out, ← hFF, ← Hn.out]; exact acL_few G.out (Nat.le_refl _))
    have hPb := HPb.out
    have HB4 := hid (bfrom HB.out hBw.out)
    clear hFF hx1 hx2 hl
    go_wp2_with fail
    go_loopw [7] (fun u wi => ∃ j : Nat, j ≤ P ∧ u = .int .i64 j ∧ Hid (OwnI wi gm (N + 1) (lensL N (FF.take j))) ∧ Hid (w4.grownBy wi (some gm))) (fun u _ => P - (intOf u).toNat)
    case atStart => exact ⟨0, Nat.zero_le _, rfl, hid (by rw [List.take_zero, lensL_nil]; exact hGm.out.2), hid (grownA (Below.refl _ _) _)⟩
    case round =>
      obtain ⟨j, hj, rfl, hOj, hGj⟩ := hrel
      obtain ⟨wi, rfl⟩ : ∃ wi : World, wi = wr := ⟨_, rfl⟩
      by_cases hjl : j < P
      · have hjl' : (j : Int) < (P : Int) := by omega
        obtain ⟨g9, rfl, hg9, hg9l, hcells⟩ := row_cellA hRw.out (by omega)
        have hgne : some gm ≠ (Value.slice (some ⟨g9, 0, none⟩) P cap).ownBlock := by
          obtain ⟨cur, hc, _⟩ := hGm.out.2
          exact rowA_not hRw.out hc
        have hjp : j < ps.length := by rw [hPs.out.1]; exact hjl
        have hcj := hcells j (acV ps[j]) (by rw [List.getElem?_map, List.getElem?_eq_getElem hjp]; rfl)
        obtain ⟨⟨Gj, Cj, x⟩, hpj⟩ : ∃ p, ps[j] = p := ⟨_, rfl⟩
        rw [hpj] at hcj
        have hx : FF[j]? = some x := by
          rw [← HCn.out, List.getElem?_map, List.getElem?_eq_getElem hjp, hpj]
          rfl
        rw [Addr.add_lit, Nat.zero_add] at hcj
        have hci := (World.cell?_of_block (w := w4) (w' := wi) (a := ⟨g9, j, none⟩) (hGj.out.block g9 hg9l (fun e => hgne (by rw [← e]; rfl)))).trans hcj
        have hg9w : g9 < wi.heap.size := Nat.lt_of_lt_of_le hg9l hGj.out.size
        have hxm : x ∈ acL es N n := by
          rw [HFF.out]
          exact List.mem_of_getElem? hx
        have hxN := acL_row hxm
        obtain ⟨l, hl⟩ : ∃ l, x.length = l := ⟨_, rfl⟩
        have hlN : l ≤ N := by omega
        have hlN' : (l : Int) < ((N + 1 : Nat) : Int) := by omega
        have hcl := hOj.out.reads l (by rw [lensL_len]; omega)
        obtain ⟨C, hC⟩ : ∃ C, eI (lensL N (FF.take j)) l = C := ⟨_, rfl⟩
        rw [hC, Nat.zero_add] at hcl
        have hC0 : 0 ≤ C ∧ C ≤ 104603532030 := by
          rw [← hC, lensL_at _ hlN]
          have h1 := lenC_le (FF.take j) l
          have h2 : (FF.take j).length ≤ FF.length := by rw [List.length_take]; exact Nat.min_le_right _ _
          have h3 := HFl.out
          have h4 := HPb.out
          omega
        have hCw : IntKind.i64.wrap (C + 1) = C + 1 := IntWalk.i64_in _ (by omega)
        have hfm := hOj.out.free l
        have hgm := hOj.out.lt
        have HNx := hid (show lensL N (FF.take (j + 1)) = (lensL N (FF.take j)).set l (C + 1) by
          rw [List.take_add_one, hx]
          show lensL N (FF.take j ++ [x]) = _
          rw [lensL_snoc _ (by omega), hl, hC])
        have HJl := hid (show j < P ∧ l < N + 1 from ⟨hjl, by omega⟩)
        unfold acV at hci
        dsimp only at hci
        rw [hl] at hci
        clear hC hC0 hx hxm hxN hcj hcells hpj hl hlN hjp
        go_wp2
        go_roundw
        case rel =>
          refine ⟨j + 1, by have := HJl.out; omega, by go_num, hid ?_, hid ?_⟩
          · rw [HNx.out]
            exact hOj.out.set (by rw [lensL_len]; exact HJl.out.2) _
          · exact grownA_trans hGj.out (grownA_set _ _ _ _)
        case measure => have := HJl.out; simp [intOf]; omega
      · obtain rfl : j = P := by omega
        have HOe := hid hOj.out
        have HBe := hid (show Below w.heap.size w wi from HB4.out.grown hGj.out HB4.out.size (fun i hi => by have := Option.some.inj hi; have := hGm.out.1; have := HB.out.size; omega))
        go_wp2
        go_ret2
        have h := HOe.out
        rw [List.take_of_length_le (by rw [HFl.out]; exact Nat.le_refl _), ← HFF.out, ← HCb.out] at h
        exact ⟨some ⟨gm, 0, none⟩, N + 1, rfl, FreshI.of_own h HCl.out (by have := hGm.out.1; have := HB.out.size; omega), HBe.out⟩
  · rw [hx, if_neg h0]
    have Hr := hid hr
    have hx0 : (x != 0) = true := by simpa using h0
    clear hn hr hx h0
    go_enter Try.func25, Try.ntmps25
    go_wp2_with fail
    refine (sSmall9_any s p n c es _ hm Hn.out (Hr.out.on (on_alloc _ _))).mono ?_
    rw [HX.out]
    rintro e' w2 ⟨rfl, hb2⟩
    have HB := hid (bfrom (w := w) (on_alloc _ _) hb2)
    clear hb2
    go_wp2
    go_ret2
    exact ⟨none, 0, rfl, FreshI.nil _ _, HB.out⟩


set_option maxRecDepth 100000 in
set_option maxHeartbeats 4000000 in
theorem sCountRounds_any (s : Int) (p : Option Addr) (n c : Nat) (es : List (Int × Int)) (w : World) (hm : n ≤ 1048576) (hn : es.length = n) (hr : SeesE w p es) :
    Calls Try.prog 29 #[.agg #[.int .i64 s, .slice p n c]] w fun e w' => e = .returned (.tuple #[.int .i64 (fCountRounds s es).1, .int .i64 (fCountRounds s es).2]) ∧ Below w.heap.size w w' := by
  unfold fCountRounds
  obtain ⟨x, hx⟩ : ∃ x, expCode s es = x := ⟨_, rfl⟩
  have HX := hid hx
  have Hn := hid hn
  by_cases h0 : x = 0
  · obtain ⟨g, hs12⟩ := exp_zero (hx.trans h0)
    rw [hx, if_pos h0]
    obtain ⟨b, off, rfl, rd⟩ := isG_sees g hr
    obtain ⟨N, hN⟩ : ∃ N : Nat, (N : Int) = s := ⟨s.toNat, Int.toNat_of_nonneg (by have := g.1.1.1; omega)⟩
    have HR := hid rd
    have Hr := hid hr
    have HN := hid hN
    have G := hid (show IsG (N : Int) es by rw [hN]; exact g)
    have hs0 : 0 ≤ s := by omega
    have hsN : s.toNat = N := by omega
    have hsl : s < ((N + 1 : Nat) : Int) := by omega
    obtain ⟨R, hR⟩ : ∃ R, eI (cblF s es) s.toNat = R := ⟨_, rfl⟩
    have HRv := hid (show eI (lensL N (acL es N n)) N = R by rw [← hR, hsN]; unfold cblF; rw [hsN, hn])
    dsimp only
    rw [hR]
    clear hn hr hx g rd hN hs12 hR
    go_enter Try.func29, Try.ntmps29
    go_wp2_with fail
    refine (sSmall9_any s _ n c es _ hm Hn.out (Hr.out.on (on_alloc _ _))).mono ?_
    rw [HX.out, h0]
    rintro e' w2 ⟨rfl, hb2⟩
    have HBx := hid ((Box.new w s (some ⟨b, off, none⟩) n c 28).on hb2)
    have HB := hid (bfrom (w := w) (on_alloc _ _) hb2)
    have hx1 := HBx.out.1
    have hx2 := HBx.out.2
    have hl := HBx.out.lt
    clear hb2
    have h := sAll_any N b off n c es w2 Hn.out (HR.out.on HB.out) G.out
    rw [HN.out] at h
    have HC := hid h
    clear h
    go_wp2_with fail
    refine HC.out.mono ?_
    rintro e' w4 ⟨q, cap, ps, rfl, hrow, hcon, hat, hb4⟩
    have HB4 := hid (bfrom HB.out hb4)
    have HBx4 := hid (HBx.out.on hb4)
    obtain ⟨P, hP⟩ : ∃ P, ps.length = P := ⟨_, rfl⟩
    rw [hP] at hrow ⊢
    obtain ⟨FF, hFF⟩ : ∃ FF, acL es N n = FF := ⟨_, rfl⟩
    have HFF := hid hFF
    have HCn := hid (hcon.trans hFF)
    have HPs := hid hP
    have HRow := hid hrow
    have HFl := hid (show FF.length = P by rw [← HCn.out, List.length_map]; exact hP)
    have HPb := hid (show P ≤ 104603532030 by rw [← HFl.out, ← hFF, ← Hn.out]; exact acL_few G.out (Nat.le_refl _))
    have hPb := HPb.out
    clear hFF hx1 hx2 hl hrow hcon hat hb4 hP HC
    go_wp2_with fail
    go_loopw [6, 7] (fun u i wi => ∃ (j C : Nat), j ≤ P ∧ Hid (lenC (FF.take j) N = C ∧ C ≤ j) ∧ u = .int .i64 C ∧ i = .int .i64 j ∧ Hid (Below w4.heap.size w4 wi)) (fun _ i _ => P - (intOf i).toNat)
    case atStart => exact ⟨0, 0, Nat.zero_le _, hid ⟨rfl, Nat.le_refl _⟩, rfl, rfl, hid (Below.refl _ _)⟩
    case round =>
      obtain ⟨j, C, hj, hC, rfl, rfl, hG⟩ := hrel
      obtain ⟨wi, rfl⟩ : ∃ wi : World, wi = wr := ⟨_, rfl⟩
      by_cases hjl : j < P
      · have hjl' : (j : Int) < (P : Int) := by omega
        obtain ⟨g9, rfl, hg9, hg9l, hcells⟩ := row_cellA HRow.out (by omega)
        have hjp : j < ps.length := by rw [HPs.out]; exact hjl
        have hcj := hcells j (acV ps[j]) (by rw [List.getElem?_map, List.getElem?_eq_getElem hjp]; rfl)
        obtain ⟨⟨Gj, Cj, x⟩, hpj⟩ : ∃ p, ps[j] = p := ⟨_, rfl⟩
        rw [hpj] at hcj
        have hx : FF[j]? = some x := by
          rw [← HCn.out, List.getElem?_map, List.getElem?_eq_getElem hjp, hpj]
          rfl
        rw [Addr.add_lit, Nat.zero_add] at hcj
        have hci := (World.cell?_of_block (w := w4) (w' := wi) (a := ⟨g9, j, none⟩) (hG.out.block g9 hg9l)).trans hcj
        have hg9w : g9 < wi.heap.size := Nat.lt_of_lt_of_le hg9l hG.out.size
        obtain ⟨l, hl⟩ : ∃ l, x.length = l := ⟨_, rfl⟩
        have HNx := hid (show lenC (FF.take (j + 1)) N = lenC (FF.take j) N + (if l = N then 1 else 0) by
          rw [List.take_add_one, hx]
          show lenC (FF.take j ++ [x]) N = _
          rw [lenC_snoc, hl])
        have HJl := hid hjl
        have HBi := hid (HBx4.out.on hG.out)
        have hx1 := HBi.out.1
        have hl1 := HBi.out.lt
        have hCj : C ≤ 104603532030 := by have := hC.out.2; omega
        unfold acV at hci
        dsimp only at hci
        rw [hl] at hci
        have hHN := HN.out
        by_cases hlN : l = N
        · have hb1 : ((l : Int) == s) = true := by rw [beq_iff_eq]; omega
          have HlN := hid hlN
          clear hx hcj hcells hpj hl hjp hlN hHN
          go_wp2_with fail
          go_quiet (fail)
          go_wp2
          go_roundw
          case rel => exact ⟨j + 1, C + 1, by have := HJl.out; omega, hid ⟨by rw [HNx.out, hC.out.1, if_pos HlN.out], by have := hC.out.2; omega⟩, by go_num, by go_num, hid (bdn.mpr hG.out)⟩
          case measure => have := HJl.out; simp [intOf]; omega
        · have hb1 : ((l : Int) == s) = false := by rw [beq_eq_false_iff_ne]; omega
          have HlN := hid hlN
          clear hx hcj hcells hpj hl hjp hlN hHN
          go_wp2_with fail
          go_quiet (fail)
          go_wp2
          go_roundw
          case rel => exact ⟨j + 1, C, by have := HJl.out; omega, hid ⟨by rw [HNx.out, hC.out.1, if_neg HlN.out]; rfl, by have := hC.out.2; omega⟩, rfl, by go_num, hid (bdn.mpr hG.out)⟩
          case measure => have := HJl.out; simp [intOf]; omega
      · obtain rfl : j = P := by omega
        have HBe := hid (bfrom HB4.out hG.out)
        have HCe := hid (show ((C : Nat) : Int) = R by
          have h := HRv.out
          rw [lensL_at _ (Nat.le_refl _), HFF.out] at h
          have h2 := hC.out.1
          rw [List.take_of_length_le (by rw [HFl.out]; exact Nat.le_refl _)] at h2
          rw [h2] at h
          exact h)
        go_wp2
        go_ret2
        exact ⟨by rw [HCe.out]; rfl, HBe.out⟩
  · rw [hx, if_neg h0]
    have Hr := hid hr
    have hx0 : (x != 0) = true := by simpa using h0
    clear hn hr hx h0
    go_enter Try.func29, Try.ntmps29
    go_wp2_with fail
    refine (sSmall9_any s p n c es _ hm Hn.out (Hr.out.on (on_alloc _ _))).mono ?_
    rw [HX.out]
    rintro e' w2 ⟨rfl, hb2⟩
    have HB := hid (bfrom (w := w) (on_alloc _ _) hb2)
    clear hb2
    go_wp2
    go_ret2
    exact ⟨rfl, HB.out⟩


end Go.Proofs.Ytemhbbggnednpaa
