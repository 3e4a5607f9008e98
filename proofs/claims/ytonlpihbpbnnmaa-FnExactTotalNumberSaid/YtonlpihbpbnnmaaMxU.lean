/- Squares of marks in the model, with the vertices: l08Rows for total colourings. -/
import Derived.Test.YtonlpihbpbnnmaaMxS
namespace Go.Proofs.Ytonlpihbpbnnmaa
open Go.RowKit

set_option maxRecDepth 100000 in
set_option maxHeartbeats 16000000 in
theorem sRowsT_any (s : Nat) (b off m c : Nat) (es : List (Int × Int)) (w : World) (hn : es.length = m) (hr : ReadsE w b off es) (g : IsG s es) :
    Calls Try.prog 67 #[.agg #[.int .i64 s, .slice (some ⟨b, off, none⟩) m c], .bool true] w (MxPost w.heap.size (s + m) (outS es s true m) w) := by
  have hm30 : m ≤ 30 := by have := isG_len g; omega
  have hs20 : s ≤ 20 := by have := g.1.1.2.1; omega
  have h1m : 1 ≤ m := by have := g.1.1.2.2.2; have := g.1.1.1; omega
  have Hn := hid hn
  have Hr := hid hr
  have Hends := hid (show ∀ e, e < m → ∀ t, t < 2 → 0 ≤ endK es e t ∧ endK es e t < s from fun e he t ht => by
    have h := g.1.2 e (by omega)
    unfold okEdge at h
    unfold endK
    split <;> omega)
  obtain ⟨j0, hj, hy0, hy1, hy2⟩ := info_parts infoInt
  obtain ⟨s0, hs, hs0, hs1, hs2⟩ := info_parts infoSlM
  obtain ⟨NM, hNM⟩ : ∃ NM, s + m = NM := ⟨_, rfl⟩
  have hNM2 : (s : Int) + (m : Int) = (NM : Int) := by omega
  obtain ⟨ZC, hZC⟩ : ∃ ZC, ZC = madeCells (Value.int .i64 0).cells (NM * 1) := ⟨_, rfl⟩
  have hmk : ∀ w', (Instr.makeSlice 34 (.int .i64 NM) (.int .i64 NM)).run Try.prog w' = .ok (.slice (some ⟨w'.heap.size, 0, none⟩) NM NM) (w'.alloc (.cells ZC 2)) := fun w' => by
    have h := run_makeSlice (P := Try.prog) w' 34 2 j0 (.int .i64 0) Try.underlying34 hj hy0 .i64 .i64 NM NM (by omega) (Int.le_refl _) (by rw [hy1]; omega) (by rw [hy2]; omega) (by omega)
    rw [hy1] at h
    rw [hZC]
    simpa using h
  have HZC := hid hZC
  have Hs := hid hs
  have HNM := hid hNM
  have hNMle : s ≤ NM ∧ m ≤ NM ∧ NM ≤ 50 := by omega
  have HX0 := hid (Box.new w s (some ⟨b, off, none⟩) m c 30)
  have HB0 := hid (on_alloc w (.cells #[.int .i64 s, .slice (some ⟨b, off, none⟩) m c] 30))
  have hb0 := HX0.out.1
  have hb1 := HX0.out.2
  rw [hNM]
  clear hn hr g hj hs hZC hNM
  go_enter Try.func67, Try.ntmps67
  go_wp2
  go_quiet (fail)
  obtain ⟨w1, hw1⟩ : ∃ w1, w1 = (w.alloc (.cells #[.int .i64 s, .slice (some ⟨b, off, none⟩) m c] 30)).drewN nq := ⟨_, rfl⟩
  have HB1 := hid (show Below w.heap.size w w1 by rw [hw1]; exact bdn.2 HB0.out)
  have HX1 := hid (show Box w1 w.heap.size s (some ⟨b, off, none⟩) m c by rw [hw1]; exact HX0.out)
  have HS1 := hid (show w1.heap.size = w.heap.size + 1 by rw [hw1]; simp)
  rw [← hw1]
  clear hw1 HX0 HB0 hb0 hb1
  have hx1 := HX1.out.1
  have hx1s := HX1.out.lt
  go_wp2
  clear hx1 hx1s
  have HO1 := hid (show (w1.alloc (.cells #[] 34)).ownsRow w1.heap.size 34 1 (.slice (some ⟨w1.heap.size, 0, none⟩) 0 0) 0 (([] : List Nat).map (rowV NM)) from World.ownsRow_made (base := w1.heap.size) (e := 34) (size := 1) w1 #[] 0 (Nat.le_refl _) (Nat.zero_le _) rfl)
  have HBA := hid (on_alloc w1 (.cells #[] 34))
  go_loopw [7, 8] (fun u i wr => ∃ (k cap : Nat) (q : Option Addr) (bs : List Nat), k ≤ NM ∧ u = .slice q k cap ∧ i = .int .i64 k ∧ Hid (wr.ownsRow w1.heap.size 34 1 (.slice q k cap) k (bs.map (rowV NM))) ∧ Hid (bs.length = k ∧ RowsB wr w1.heap.size bs NM noM) ∧ Hid (Below w1.heap.size w1 wr)) (fun _ i _ => NM - (intOf i).toNat)
  case atStart => exact ⟨0, 0, _, [], Nat.zero_le _, rfl, rfl, HO1, hid ⟨rfl, RowsB.nil _ _ _ _⟩, HBA⟩
  case round =>
    obtain ⟨k, cap, q, bs, hk, rfl, rfl, hOw, hRo, hB⟩ := hrel
    clear HO1 HBA
    obtain ⟨wi, rfl⟩ : ∃ wi : World, wi = wr := ⟨_, rfl⟩
    by_cases hlt : k < NM
    · have hlt' : (k : Int) < (NM : Int) := by omega
      have HP := hid (RowsB.push (N := NM) hRo.out.2 HZC.out hB.out.size)
      have HOa := hid (show (wi.alloc (.cells ZC 2)).ownsRow w1.heap.size 34 1 (.slice q k cap) k (bs.map (rowV NM)) from World.ownsRow.alloc hOw.out _)
      have HBi := hid (bfrom hB.out (on_alloc wi (.cells ZC 2)))
      have hwi : w1.heap.size ≤ wi.heap.size := hB.out.size
      go_wp2_with (at_builtin; go_must (refine wpList_append_lies _ rfl (.tmp 32) (.tmp 37) 49 rfl w1.heap.size 34 s0 (.slice none 0 0) 1 24 Try.underlying49 Hs.out hs0 hs1 hs2 rfl (by decide) (.slice q k cap) k (bs.map (rowV NM)) rfl (HOa.out.alloc _) ⟨wi.heap.size + 1, 0, none⟩ 1 1 [.slice (some ⟨wi.heap.size, 0, none⟩) NM NM] rfl rfl (World.news_of_block (cs := #[.slice (some ⟨wi.heap.size, 0, none⟩) NM NM]) (t := 34) (fr := (0, 0)) (new_after _ (by simp))) (by simp [Value.oneCell']) (by decide) (by unfold maxLen; omega) (by omega) (by simp; omega) (wi.heap.size + 1 + 1) (by simp) ?_); intro g8 cap8 w8 hown8 hgrow8 hlie8 hg8; have Hown8 := hid hown8; have Hgrow8 := hid hgrow8; clear hown8 hgrow8 hlie8)
      have HRow := hid (HOa.out.lt)
      go_roundw
      case rel =>
        refine ⟨k + 1, cap8, some ⟨g8, 0, none⟩, bs ++ [wi.heap.size], by omega, rfl, by go_num, hid ?_, hid ⟨by rw [List.length_append, hRo.out.1]; rfl, ?_⟩, hid ?_⟩
        · rw [List.map_append]; exact Hown8.out
        · exact (HP.out.on (on_alloc _ _)).grown (HOa.out.alloc _) Hgrow8.out
        · exact (bfrom' HBi.out (on_alloc _ _)).grown Hgrow8.out (by have := HBi.out.size; simp at this ⊢; omega) (fun j' e => (HRow.out j' e).1)
      case measure => simp [intOf]; omega
    · obtain rfl : k = NM := by omega
      obtain ⟨g, rfl, hg, hob⟩ := OutB.of_row hOw.out hRo.out.1 (by omega)
      have HG := hid (And.intro hob hRo.out.2)
      have HBs := hid hRo.out.1
      clear hOw hRo hob hmk
      go_wp2
      go_loopw [9] (fun i wr => ∃ e : Nat, e ≤ m ∧ i = .int .i64 e ∧ Hid (OutB wr g bs k ∧ RowsB wr w1.heap.size bs k (outS es s true e)) ∧ Hid (Below w1.heap.size w1 wr)) (fun i _ => m - (intOf i).toNat)
      case atStart => exact ⟨0, Nat.zero_le _, rfl, HG, hB⟩
      case round =>
        obtain ⟨e, he, rfl, hM, hBe⟩ := hrel
        clear HG hB
        by_cases hle : e < m
        · have hle' : (e : Int) < (m : Int) := by omega
          obtain ⟨se, hse⟩ : ∃ se, s + e = se := ⟨_, rfl⟩
          have hse2 : (s : Int) + (e : Int) = (se : Int) := by omega
          have hsek : se < k := by have := HNM.out; omega
          have hsek' : (se : Int) < (k : Int) := by omega
          have HSE := hid hse
          go_wp2
          go_loopw [10] (fun i wx => ∃ f : Nat, f ≤ e ∧ i = .int .i64 f ∧ Hid (OutB wx g bs k ∧ RowsB wx w1.heap.size bs k (innS es s true e (outS es s true e) f)) ∧ Hid (Below w1.heap.size w1 wx)) (fun i _ => e - (intOf i).toNat)
          case atStart => exact ⟨0, Nat.zero_le _, rfl, hM, hBe⟩
          case round =>
            obtain ⟨f, hf, rfl, hMf, hBf⟩ := hrel
            obtain ⟨wx, rfl⟩ : ∃ wx : World, wx = wr := ⟨_, rfl⟩
            have HBx := hid (show Below w.heap.size w wx from HB1.out.trans (hBf.out.mono HB1.out.size))
            have HXx := hid (HX1.out.on' hBf.out (by have := HS1.out; omega))
            have hxr := HXx.out.1
            have hyr := HXx.out.2
            have hzr := HXx.out.lt
            have hbsl : bs.length = k := HBs.out
            by_cases hlf : f < e
            · have hlf' : (f : Int) < (e : Int) := by omega
              obtain ⟨sf, hsf⟩ : ∃ sf, s + f = sf := ⟨_, rfl⟩
              have hsf2 : (s : Int) + (f : Int) = (sf : Int) := by omega
              have hsfk : sf < k := by omega
              have hsfk' : (sf : Int) < (k : Int) := by omega
              have HSF := hid hsf
              cases g1 : nearB es e f
              · have HC := hid (show condB es true e f ≠ true by unfold condB; rw [g1]; simp)
                go_wp2_with fail
                refine (sNear_any s b off m c e f es _ Hn.out hm30 (Hr.out.on HBx.out) hle (by omega)).mono ?_
                rw [g1]
                rintro e' w6 ⟨rfl, hb6⟩
                have HB6 := hid hb6
                clear hb6 hxr hyr
                go_wp2
                go_roundw
                case rel => exact ⟨f + 1, by omega, by go_num, hid (by unfold innS; rw [if_neg HC.out]; exact ⟨hMf.out.1.on HB6.out, hMf.out.2.on HB6.out⟩), hid (bfrom' hBf.out HB6.out)⟩
                case measure => simp [intOf]; omega
              · have HC := hid (show condB es true e f = true by unfold condB; rw [g1]; rfl)
                go_wp2_with fail
                refine (sNear_any s b off m c e f es _ Hn.out hm30 (Hr.out.on HBx.out) hle (by omega)).mono ?_
                rw [g1]
                rintro e' w6 ⟨rfl, hb6⟩
                have HB6 := hid hb6
                clear hb6 hxr hyr
                have HM6 := hid (show OutB w6 g bs k ∧ RowsB w6 w1.heap.size bs k (innS es s true e (outS es s true e) f) from ⟨hMf.out.1.on HB6.out, hMf.out.2.on HB6.out⟩)
                have HBw6 := hid (bfrom' hBf.out HB6.out)
                have c1 := HM6.out.1.cell (i := se) (by omega)
                have c2 := HM6.out.1.cell (i := sf) (by omega)
                have c3 := HM6.out.2.cell (i := se) (j := sf) (by omega) (by omega)
                have c4 := HM6.out.2.cell (i := sf) (j := se) (by omega) (by omega)
                have d1 := HM6.out.2.free (i := se) (by omega) sf
                have d2 := HM6.out.2.free (i := sf) (by omega) se
                have l0 := HM6.out.1.lt
                have l1 := HM6.out.2.lt (i := se) (by omega)
                have l2 := HM6.out.2.lt (i := sf) (by omega)
                have hne : ¬ bN bs sf = bN bs se := fun h => by have := HM6.out.2.2 sf se (by omega) (by omega) h; omega
                have HST := hid ((HM6.out.2.set (i := se) (j := sf) (by omega) (by omega)).set (i := sf) (j := se) (by omega) (by omega))
                have HN1 := hid (HM6.out.1.ne HM6.out.2 (i := se) (by omega))
                have HN2 := hid (HM6.out.1.ne HM6.out.2 (i := sf) (by omega))
                have HL1 := hid (show w1.heap.size ≤ bN bs se from (HM6.out.2.1 se (by omega)).1)
                have HL2 := hid (show w1.heap.size ≤ bN bs sf from (HM6.out.2.1 sf (by omega)).1)
                obtain ⟨be, hbe⟩ : ∃ be, bN bs se = be := ⟨_, rfl⟩
                obtain ⟨bf, hbf⟩ : ∃ bf, bN bs sf = bf := ⟨_, rfl⟩
                rw [hbe] at c1 c3 d1 l1 hne HST HN1 HL1
                rw [hbf] at c2 c4 d2 l2 hne HST HN2 HL2
                clear hbe hbf hse hsf
                go_wp2
                go_quiet (fail)
                go_wp2
                go_roundw
                case rel =>
                  refine ⟨f + 1, by omega, by go_num, hid ?_, hid ?_⟩
                  · unfold innS
                    rw [if_pos HC.out, HSE.out, HSF.out]
                    exact ⟨((HM6.out.1.drewN _).keep ((heap_setCell_other _ ⟨bf, se, none⟩ g _ HN2.out).trans (heap_setCell_other _ ⟨be, sf, none⟩ g _ HN1.out))), HST.out.drewS _⟩
                  · exact ((bdn.2 HBw6.out).setCell (p := ⟨be, sf, none⟩) HL1.out _).setCell (p := ⟨bf, se, none⟩) HL2.out _
                case measure => simp [intOf]; omega
            · have hfe := hid (show f = e by omega)
              have HM0 := hid (show OutB wx g bs k ∧ RowsB wx w1.heap.size bs k (endS es s e (innS es s true e (outS es s true e) e) 0) by have h := hMf.out; rw [hfe.out] at h; exact h)
              clear hxr hyr hzr HXx HBx
              go_wp2
              go_loopw [13] (fun i wz => ∃ t : Nat, t ≤ 2 ∧ i = .int .i64 t ∧ Hid (OutB wz g bs k ∧ RowsB wz w1.heap.size bs k (endS es s e (innS es s true e (outS es s true e) e) t)) ∧ Hid (Below w1.heap.size w1 wz)) (fun i _ => 2 - (intOf i).toNat)
              case atStart => exact ⟨0, Nat.zero_le _, rfl, HM0, hBf⟩
              case round =>
                obtain ⟨t, ht, rfl, hMt, hBt⟩ := hrel
                clear HM0 hBf hMf
                obtain ⟨wz, rfl⟩ : ∃ wz : World, wz = wr := ⟨_, rfl⟩
                by_cases hlt2 : t < 2
                · have hlt2' : (t : Int) < 2 := by omega
                  have HBz := hid (show Below w.heap.size w wz from HB1.out.trans (hBt.out.mono HB1.out.size))
                  have HXz := hid (HX1.out.on' hBt.out (by have := HS1.out; omega))
                  have hxr := HXz.out.2
                  have hzr := HXz.out.lt
                  obtain ⟨u, hu⟩ : ∃ u, 1 - t = u := ⟨_, rfl⟩
                  have hu2 : (1 : Int) - (t : Int) = (u : Int) := by omega
                  have hu3 : (u : Int) < 2 := by omega
                  have hed : ∀ t, t < 2 → wz.cell? ⟨b, off + e * 2 + t, none⟩ = some (.int .i64 (endK es e t)) := fun t ht => by
                    obtain ⟨h1, h2⟩ := (Hr.out.on HBz.out) e (by rw [Hn.out]; exact hle)
                    rcases (by omega : t = 0 ∨ t = 1) with rfl | rfl
                    · exact h1
                    · exact h2
                  have k1 := hed t hlt2
                  have k2 := hed u (by omega)
                  have e1 := Hends.out e hle t hlt2
                  have e2 := Hends.out e hle u (by omega)
                  obtain ⟨V, hV⟩ : ∃ V : Nat, endK es e t = V := ⟨_, (Int.toNat_of_nonneg e1.1).symm⟩
                  obtain ⟨W, hW⟩ : ∃ W : Nat, endK es e u = W := ⟨_, (Int.toNat_of_nonneg e2.1).symm⟩
                  rw [hV] at k1 e1
                  rw [hW] at k2 e2
                  have HVW := hid (show (endK es e t).toNat = V ∧ (endK es e (1 - t)).toNat = W by rw [hu, hV, hW]; simp)
                  have hVs : V < s := by omega
                  have hWs : W < s := by omega
                  have hVk : (V : Int) < (k : Int) := by omega
                  have hWk : (W : Int) < (k : Int) := by omega
                  have hbl := World.block_lt_of_cell? wz _ k1
                  dsimp only at hbl
                  have c1 := hMt.out.1.cell (i := V) (by omega)
                  have c2 := hMt.out.1.cell (i := se) (by omega)
                  have c3 := hMt.out.2.cell (i := V) (j := W) (by omega) (by omega)
                  have c4 := hMt.out.2.cell (i := V) (j := se) (by omega) (by omega)
                  have c5 := hMt.out.2.cell (i := se) (j := V) (by omega) (by omega)
                  have d1 := hMt.out.2.free (i := V) (by omega) W
                  have d2 := hMt.out.2.free (i := V) (by omega) se
                  have d3 := hMt.out.2.free (i := se) (by omega) V
                  have l0 := hMt.out.1.lt
                  have l1 := hMt.out.2.lt (i := V) (by omega)
                  have l2 := hMt.out.2.lt (i := se) (by omega)
                  have hne : ¬ bN bs se = bN bs V := fun h => by have := hMt.out.2.2 se V (by omega) (by omega) h; omega
                  have hsW : ¬ se = W := by omega
                  have HST := hid (((hMt.out.2.set (i := V) (j := W) (by omega) (by omega)).set (i := V) (j := se) (by omega) (by omega)).set (i := se) (j := V) (by omega) (by omega))
                  have HN1 := hid (hMt.out.1.ne hMt.out.2 (i := V) (by omega))
                  have HN2 := hid (hMt.out.1.ne hMt.out.2 (i := se) (by omega))
                  have HL1 := hid (show w1.heap.size ≤ bN bs V from (hMt.out.2.1 V (by omega)).1)
                  have HL2 := hid (show w1.heap.size ≤ bN bs se from (hMt.out.2.1 se (by omega)).1)
                  obtain ⟨bV, hbV⟩ : ∃ bV, bN bs V = bV := ⟨_, rfl⟩
                  obtain ⟨bS, hbS⟩ : ∃ bS, bN bs se = bS := ⟨_, rfl⟩
                  rw [hbV] at c1 c3 c4 d1 d2 l1 hne HST HN1 HL1
                  rw [hbS] at c2 c5 d3 l2 hne HST HN2 HL2
                  clear hbV hbS hse hu hV hW hed e1 e2 HXz HBz
                  go_wp2
                  go_quiet (fail)
                  go_wp2
                  go_quiet (fail)
                  go_wp2
                  go_roundw
                  case rel =>
                    refine ⟨t + 1, by omega, by go_num, hid ?_, hid ?_⟩
                    · unfold endS
                      rw [HVW.out.1, HVW.out.2, HSE.out]
                      refine ⟨((hMt.out.1.drewN _).keep ((heap_setCell_other _ ⟨bS, V, none⟩ g _ HN2.out).trans ((heap_setCell_other _ ⟨bV, se, none⟩ g _ HN1.out).trans (heap_setCell_other _ ⟨bV, W, none⟩ g _ HN1.out)))), HST.out.drewS _⟩
                    · exact (((bdn.2 hBt.out).setCell (p := ⟨bV, W, none⟩) HL1.out _).setCell (p := ⟨bV, se, none⟩) HL1.out _).setCell (p := ⟨bS, V, none⟩) HL2.out _
                  case measure => simp [intOf]; omega
                · have ht2 := hid (show t = 2 by omega)
                  go_wp2
                  go_roundw
                  case rel => exact ⟨e + 1, by omega, by go_num, hid (by have h := hMt.out; rw [ht2.out] at h; exact h), hBt⟩
                  case measure => simp [intOf]; omega
        · have hek := hid (show e = m by omega)
          go_wp2
          go_ret
          exact ⟨g, cap, bs, rfl, HBs.out, hM.out.1, by have h := hM.out.2.less (show w.heap.size ≤ w1.heap.size from HB1.out.size); rw [hek.out] at h; exact h, HB1.out.trans (hBe.out.mono HB1.out.size)⟩

end Go.Proofs.Ytonlpihbpbnnmaa
