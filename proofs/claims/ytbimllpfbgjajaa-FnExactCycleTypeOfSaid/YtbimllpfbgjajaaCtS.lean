/- CycleTypeOf in the model: the ways are walked, their lengths put into the list in descending order. -/
import Derived.Test.YtbimllpfbgjajaaCtA
import Derived.Test.YtbimllpfbgjajaaTenS
import Derived.Test.YtbimllpfbgjajaaOwnS
import Derived.Laws.AppendOwnNone
namespace Go.Proofs.Ytbimllpfbgjajaa
open Go.RowKit

attribute [local go_sem] Oper.semAt_some

set_option maxRecDepth 100000 in
set_option maxHeartbeats 32000000 in
theorem sCt_yes (b off m c : Nat) (xs : List Int) (w : World) (hm1 : 1 ≤ m) (hm : m ≤ 20) (hl : xs.length = m) (hr : ReadsI w b off xs) (he : eachF (m : Int) xs) :
    Calls Try.prog 37 #[.slice (some ⟨b, off, none⟩) m c] w fun e w' => ∃ q cap, e = .returned (.tuple #[.slice q (dscI (ctU xs m).2).length cap, .int .i64 0]) ∧ FreshI w.heap.size w' q (dscI (ctU xs m).2).length cap (dscI (ctU xs m).2) ∧ Below w.heap.size w w' := by
  have Hl := hid hl
  have Hr := hid hr
  have HE := hid he
  obtain ⟨i0, hi, hz0, hz1, hz2⟩ := info_parts infoBool
  obtain ⟨j0, hj, hy0, hy1, hy2⟩ := info_parts infoInt
  have Hi := hid hi
  have Hj := hid hj
  have hbw := hr.lt (by omega)
  clear hl hr he hi hj
  go_enter Try.func37, Try.ntmps37
  go_wp2_with fail
  refine (sIn_yes _ _ _ _ (by omega)).mono ?_
  rintro e w0 ⟨rfl, rfl⟩
  go_wp2_with fail
  refine (sTen_any _ _ _ _ xs _ (by omega) (by omega) Hl.out (.inr ⟨b, off, rfl, Hr.out⟩)).mono ?_
  rw [decide_eq_true HE.out]
  rintro e w2 ⟨rfl, hb2⟩
  have HB2 := hid hb2
  clear hb2
  go_wp2_with (at_make; refine wpList_make_full _ rfl _ _ 89 rfl w2.heap.size 4 i0 (.bool false) 1 Try.underlying89 Hi.out hz0 hz1 _ _ _ _ m rfl rfl rfl rfl (by rw [hz2]; omega) (by unfold maxLen; omega) (Nat.le_refl _) ?_; intro w3 hown hgrow; have hb3 := (Below.refl w2.heap.size w2).grown hgrow (Nat.le_refl _) (fun k e => by cases e); have Ho := hid (OwnB.made hown); have Hb := hid hb3; clear hown hgrow hb3)
  have hM0 := Ho.out.alloc (.cells #[] 2)
  have HM0 := hid hM0
  have HB3 := hid (bfrom HB2.out Hb.out)
  have hg2 : w2.heap.size < w3.heap.size := Ho.out.lt
  have hw2 := HB2.out.size
  clear hM0
  go_loopw [6, 7] (fun out iv wr => ∃ (i g K cap : Nat) (M : List Bool) (S : List Int), i ≤ m ∧ K ≤ i ∧ iv = .int .i64 i ∧ out = .slice (some ⟨g, 0, none⟩) K cap ∧ w2.heap.size < g ∧ Hid (ctU xs i = (M, (ctU xs i).2)) ∧ Hid (dscI (ctU xs i).2 = S) ∧ Hid (S.length = K) ∧ Hid (OwnB wr w2.heap.size m M) ∧ Hid (OwnI wr g cap S) ∧ Hid (Below w.heap.size w wr)) (fun _ iv _ => m - (intOf iv).toNat)
  case atStart => exact ⟨0, w3.heap.size, 0, 0, _, _, Nat.zero_le _, Nat.zero_le _, rfl, rfl, hg2, hid rfl, hid rfl, hid (by simp [ctU, dscI, srtI]), hid (by have h := HM0.out; first | exact h | (show OwnB _ _ _ (List.replicate xs.length false); rw [Hl.out]; exact h)), hid (by rw [show dscI (ctU xs 0).2 = [] by simp [ctU, dscI, srtI]]; exact own_nil _ _ rfl), hid (HB3.out.alloc HB3.out.size _)⟩
  case round =>
    obtain ⟨i, g0, K, cap0, M, S, hi, hKi, rfl, rfl, hg0, hU, hSd, hSlen, hM, hO, hB⟩ := hrel
    by_cases hlt : i < m
    · have hlt' : (i : Int) < (m : Int) := by omega
      have hMl : M.length = m := by have h := ctU_len xs i; rw [hU.out] at h; rw [h, Hl.out]
      obtain ⟨wo, rfl⟩ : ∃ wo : World, wo = wr := ⟨_, rfl⟩
      have HC0 := hid (show cwN xs m M i 0 = cwN xs xs.length (ctU xs i).1 i 0 by rw [hU.out, Hl.out])
      have hct : M.count false ≤ m := by have := List.count_le_length (a := false) (l := M); omega
      have HMl := hid hMl
      have Hct := hid hct
      clear hMl hct
      go_wp2
      go_loopw [8, 9] (fun lv wv wk => ∃ (k W f : Nat) (M2 : List Bool), lv = .int .i64 k ∧ wv = .int .i64 W ∧ W < m ∧ Hid (M2.length = m ∧ M2.count false ≤ f ∧ k + M2.count false ≤ 20) ∧ Hid (cwN xs f M2 W k = cwN xs xs.length (ctU xs i).1 i 0) ∧ Hid (OwnB wk w2.heap.size m M2) ∧ Hid (OwnI wk g0 cap0 S) ∧ Hid (Below w.heap.size w wk)) (fun lv _ _ => 20 - (intOf lv).toNat)
      case atStart => exact ⟨0, i, m, M, rfl, rfl, hlt, hid ⟨HMl.out, Hct.out, by have := Hct.out; omega⟩, HC0, hM, hO, hB⟩
      case round =>
        clear hM hO hB
        obtain ⟨X, W, f, M2, rfl, rfl, hW, hN, HC, hM, hO, hB⟩ := hrel
        have hcm := hM.out.cell (i := W) (by rw [hN.out.1]; exact hW)
        have hfm := hM.out.free W
        have hgz := hM.out.lt
        have hW' : (W : Int) < (m : Int) := by omega
        cases hq : eL M2 W with
        | false =>
          have HQ := hid hq
          rw [hq] at hcm
          have hcnt := count_meet (by rw [hN.out.1]; exact hW) hq
          have Hcnt := hid hcnt
          have hX20 : X < 20 := by have := hN.out.2.2; omega
          have hc1 := Hr.out.on hB.out W (by rw [Hl.out]; exact hW)
          obtain ⟨Y, hY⟩ : ∃ Y : Nat, eI xs W = Y := ⟨_, (Int.toNat_of_nonneg (HE.out.2.1 W (by rw [Hl.out]; exact hW)).1).symm⟩
          have hYm : Y < m := by have := (HE.out.2.1 W (by rw [Hl.out]; exact hW)).2; omega
          rw [hY] at hc1
          have HY := hid hY
          have hne : b ≠ w2.heap.size := by omega
          clear hq hcnt hY
          obtain ⟨wv, rfl⟩ : ∃ wv : World, wv = wr := ⟨_, rfl⟩
          go_wp2
          go_roundw
          case rel =>
            obtain ⟨f', rfl, h1, h2⟩ := cwN_step xs (k := X) (by rw [hN.out.1]; exact hW) HQ.out hN.out.2.1
            refine ⟨X + 1, Y, f', M2.set W true, by go_num, rfl, hYm, hid ⟨by rw [List.length_set]; exact hN.out.1, h1, by have := hN.out.2.2; have := Hcnt.out; omega⟩, hid ?_, hid (hM.out.set (by rw [hN.out.1]; exact hW) true), hid (hO.out.far (by show g0 ≠ w2.heap.size; omega) _), hid (hB.out.setCell (p := ⟨w2.heap.size, W, none⟩) (by show w.heap.size ≤ w2.heap.size; omega) _)⟩
            rw [← HC.out, h2, HY.out]
            rfl
          case measure => simp [intOf]; omega
        | true =>
          have HQ := hid hq
          rw [hq] at hcm
          have hX20 : X ≤ 20 := by have := hN.out.2.2; omega
          clear hq
          have HC := hid (HC.out.symm)
          by_cases h0 : X = 0
          · subst h0
            obtain ⟨wv, rfl⟩ : ∃ wv : World, wv = wr := ⟨_, rfl⟩
            go_wp2
            go_roundw
            case rel =>
              exact ⟨i + 1, g0, K, cap0, M2, S, by omega, by omega, by go_num, rfl, hg0, hid (by have h := ctU_go (HC.out.trans (cwN_met _ _ HQ.out)); rw [h]), hid (by have h := ctU_go (HC.out.trans (cwN_met _ _ HQ.out)); rw [h, if_pos rfl]; exact hSd.out), hSlen, hM, hO, hB⟩
            case measure => simp [intOf]; omega
          · have hX0 : ((X : Int) == 0) = false := by simp; omega
            have HSl := hSlen
            have HS := hSd
            have hg0r := hO.out.lt
            have hK20 : K ≤ 20 := by omega
            have H0 := hid h0
            clear h0
            obtain ⟨wo, rfl⟩ : ∃ wo : World, wo = wr := ⟨_, rfl⟩
            go_wp2
            go_loopw [10] (fun av wk => ∃ a : Nat, a ≤ K ∧ av = .int .i64 a ∧ Hid (a < K → eI S a ≤ (X : Int)) ∧ wk = wo) (fun av _ => (intOf av).toNat)
            case atStart => exact ⟨K, Nat.le_refl _, rfl, hid (fun h => by omega), rfl⟩
            case round =>
              obtain ⟨a, ha, rfl, hA, rfl⟩ := hrel
              have h0 := H0.out
              by_cases hz0 : a = 0
              · have hz : ¬ 0 < a := by omega
                have HA := hid (show (0 < a → (X : Int) ≤ eI S (a - 1)) from fun h => by omega)
                clear hz0
                by_cases hac : a < cap0
                · go_wp2_with (at_builtin; go_loud (refine wpList_append_own _ rfl (.tmp 64) (.tmp 67) 34 rfl wr.heap.size 2 j0 (.int .i64 0) 1 8 Try.underlying34 Hj.out hy0 hy1 hy2 rfl (by decide) (.slice (some ⟨wr.heap.size, 0, none⟩) 1 1) 1 (intVals [(X : Int)]) rfl (OwnI.row (own_one wr _ (X : Int) rfl) rfl (Nat.le_refl _)) ⟨g0, a, none⟩ (K - a) (cap0 - a) (intVals (S.drop a)) ?qx ?qc1 ?qc2 ?qc3 ?qc4 ?qc5 ?qc6 ?_))
                  case qx => simp [Act.eval]
                  case qc1 => rw [intVals_length, List.length_drop, HSl.out, Nat.mul_one]
                  case qc2 => intro k u hk; have hkl : k < (S.drop a).length := (by have := (List.getElem?_eq_some_iff.1 hk).1; rwa [intVals_length] at this); rw [intVals_at hkl] at hk; rw [List.length_drop, HSl.out] at hkl; have h := hO.out.cellK (i := a + k) (by rw [HSl.out]; omega); rw [Addr.add_lit, ← hk, (bcells (on_alloc wr _)).1 _ _ hO.out.lt, h]; congr 2; rw [eI_lt (by rw [HSl.out]; omega), eI_lt (by rw [List.length_drop, HSl.out]; omega), List.getElem_drop]
                  case qc3 => exact intVals_one _
                  case qc4 => unfold maxLen; omega
                  case qc5 => omega
                  case qc6 => simp
                  intro v1 w4 hown1 hgrow1 _
                  obtain ⟨g1, cap1, rfl⟩ : ∃ g1 cap1, v1 = .slice (some ⟨g1, 0, none⟩) (1 + (K - a)) cap1 := by
                    rcases hown1.2 with ⟨_, h0⟩ | ⟨g1, cap1, cur, hv, _⟩
                    · omega
                    · exact ⟨g1, cap1, hv⟩
                  have hB4 : Below wr.heap.size wr w4 := (on_alloc wr _).grown hgrow1 (by simp) (fun k hk => by have e1 : wr.heap.size = k := Option.some.inj hk; omega)
                  have HB4 := hid hB4
                  have HR1 := hid (OwnI.of_row (n := 1 + (K - a)) (xs := (X : Int) :: S.drop a) hown1 (by rw [List.length_cons, List.length_drop, HSl.out]; omega)).1
                  have HO4 := hid (hO.out.on hB4)
                  have HM4 := hid (hM.out.on hB4)
                  have hg04 := HO4.out.lt
                  have hac0 : a ≤ cap0 := by have := hO.out.le; have := HSl.out; omega
                  clear hown1 hgrow1 hB4
                  go_wp2_with fail
                  refine (sOwnI_any g0 0 a cap0 (S.take a) _ (by rw [List.length_take, HSl.out]; omega) (by omega) (fun k hk => by rw [List.length_take, HSl.out] at hk; have h := HO4.out.reads k (by rw [HSl.out]; omega); rw [h]; congr 2; rw [eI_lt (by rw [HSl.out]; omega), eI_lt (by rw [List.length_take, HSl.out]; omega), List.getElem_take]) hg04).mono ?_
                  rintro e5 w5 ⟨g2, cap2, rfl, hg2, hO2, hB5⟩
                  have HB5 := hid hB5
                  have HO2 := hid hO2
                  have HR5 := hid (HR1.out.on hB5)
                  clear hB5 hO2
                  go_wp2_with (at_builtin; refine wpList_append_own _ rfl (.tmp 72) (.tmp 73) 34 rfl w4.heap.size 2 j0 (.int .i64 0) 1 8 Try.underlying34 Hj.out hy0 hy1 hy2 rfl (by decide) (.slice (some ⟨g2, 0, none⟩) a cap2) a (intVals (S.take a)) rfl (OwnI.row HO2.out (by rw [List.length_take, HSl.out]; omega) hg2) ⟨g1, 0, none⟩ (1 + (K - a)) cap1 (intVals ((X : Int) :: S.drop a)) rfl ?qd1 ?qd2 ?qd3 ?qd4 ?qd5 ?qd6 ?_)
                  case qd1 => rw [intVals_length, List.length_cons, List.length_drop, HSl.out]; omega
                  case qd2 => exact news_ofI (n := 1 + (K - a)) (by rw [List.length_cons, List.length_drop, HSl.out]; omega) HR5.out.reads (fun _ _ => rfl)
                  case qd3 => exact intVals_one _
                  case qd4 => unfold maxLen; omega
                  case qd5 => omega
                  case qd6 => exact HB5.out.size
                  intro v2 w6 hown2 hgrow2 _
                  rw [show a + (1 + (K - a)) = K + 1 by omega] at hown2
                  obtain ⟨g3, cap3', rfl⟩ : ∃ g3 cap3', v2 = .slice (some ⟨g3, 0, none⟩) (K + 1) cap3' := by
                    rcases hown2.2 with ⟨_, h0⟩ | ⟨g1, cap1, cur, hv, _⟩
                    · omega
                    · exact ⟨g1, cap1, hv⟩
                  have hSn : dscI ((ctU xs i).2 ++ [(X : Int)]) = S.take a ++ (X : Int) :: S.drop a := by
                    have h := dscI_step (xs := (ctU xs i).2) (x := (X : Int)) (a := a) (by rw [HS.out, HSl.out]; exact ha) (by rw [HS.out]; exact HA.out) (by rw [HS.out, HSl.out]; exact hA.out)
                    rw [h, HS.out]
                  have hO3 := OwnI.of_row (n := K + 1) (xs := S.take a ++ (X : Int) :: S.drop a) (by rw [intVals_append]; exact hown2) (by rw [List.length_append, List.length_take, List.length_cons, List.length_drop, HSl.out]; omega)
                  have hB6 : Below w4.heap.size w4 w6 := HB5.out.grown hgrow2 HB5.out.size (fun k hk => by have e1 : g2 = k := Option.some.inj hk; omega)
                  have HF := hid (And.intro hSn (And.intro hO3 (And.intro hB6 (HM4.out.on hB6))))
                  clear hown2 hgrow2 hSn hO3 hB6
                  go_wp2
                  go_roundw
                  case rel =>
                    refine ⟨i + 1, g3, K + 1, cap3', _, _, by omega, by omega, by go_num, rfl, ?_, hid (by have h := ctU_go (HC.out.trans (cwN_met _ _ HQ.out)); rw [h]), hid (by rw [ctU_go (HC.out.trans (cwN_met _ _ HQ.out)), if_neg (by omega)]; exact HF.out.1), hid (by rw [List.length_append, List.length_take, List.length_cons, List.length_drop, HSl.out]; omega), hid HF.out.2.2.2, hid HF.out.2.1.1, hid (bfrom (hB.out.trans (HB4.out.mono (by have := hB.out.size; omega))) HF.out.2.2.1)⟩
                    have := HF.out.2.1.2; have := HB4.out.size; have := hB.out.size; omega
                  case measure => simp [intOf]; omega
                · have hca : a = cap0 := by (have := hO.out.le; have := HSl.out; omega)
                  subst hca
                  go_wp2_with (at_builtin; go_loud (refine wpList_append_own _ rfl (.tmp 64) (.tmp 67) 34 rfl wr.heap.size 2 j0 (.int .i64 0) 1 8 Try.underlying34 Hj.out hy0 hy1 hy2 rfl (by decide) (.slice (some ⟨wr.heap.size, 0, none⟩) 1 1) 1 (intVals [(X : Int)]) rfl (OwnI.row (own_one wr _ (X : Int) rfl) rfl (Nat.le_refl _)) ⟨g0, 0, none⟩ (K - a) (a - a) (intVals (S.drop a)) ?qx ?qc1 ?qc2 ?qc3 ?qc4 ?qc5 ?qc6 ?_))
                  case qx => simp [Act.eval]
                  case qc1 => rw [intVals_length, List.length_drop, HSl.out, Nat.mul_one]
                  case qc2 => intro k u hk; have hkl : k < (S.drop a).length := (by have := (List.getElem?_eq_some_iff.1 hk).1; rwa [intVals_length] at this); rw [List.length_drop, HSl.out] at hkl; have := hO.out.le; have := HSl.out; omega
                  case qc3 => exact intVals_one _
                  case qc4 => unfold maxLen; omega
                  case qc5 => omega
                  case qc6 => simp
                  intro v1 w4 hown1 hgrow1 _
                  obtain ⟨g1, cap1, rfl⟩ : ∃ g1 cap1, v1 = .slice (some ⟨g1, 0, none⟩) (1 + (K - a)) cap1 := by
                    rcases hown1.2 with ⟨_, h0⟩ | ⟨g1, cap1, cur, hv, _⟩
                    · omega
                    · exact ⟨g1, cap1, hv⟩
                  have hB4 : Below wr.heap.size wr w4 := (on_alloc wr _).grown hgrow1 (by simp) (fun k hk => by have e1 : wr.heap.size = k := Option.some.inj hk; omega)
                  have HB4 := hid hB4
                  have HR1 := hid (OwnI.of_row (n := 1 + (K - a)) (xs := (X : Int) :: S.drop a) hown1 (by rw [List.length_cons, List.length_drop, HSl.out]; omega)).1
                  have HO4 := hid (hO.out.on hB4)
                  have HM4 := hid (hM.out.on hB4)
                  have hg04 := HO4.out.lt
                  have hac0 : True := trivial
                  clear hown1 hgrow1 hB4
                  go_wp2_with fail
                  refine (sOwnI_any g0 0 a a (S.take a) _ (by rw [List.length_take, HSl.out]; omega) (by omega) (fun k hk => by rw [List.length_take, HSl.out] at hk; have h := HO4.out.reads k (by rw [HSl.out]; omega); rw [h]; congr 2; rw [eI_lt (by rw [HSl.out]; omega), eI_lt (by rw [List.length_take, HSl.out]; omega), List.getElem_take]) hg04).mono ?_
                  rintro e5 w5 ⟨g2, cap2, rfl, hg2, hO2, hB5⟩
                  have HB5 := hid hB5
                  have HO2 := hid hO2
                  have HR5 := hid (HR1.out.on hB5)
                  clear hB5 hO2
                  go_wp2_with (at_builtin; refine wpList_append_own _ rfl (.tmp 72) (.tmp 73) 34 rfl w4.heap.size 2 j0 (.int .i64 0) 1 8 Try.underlying34 Hj.out hy0 hy1 hy2 rfl (by decide) (.slice (some ⟨g2, 0, none⟩) a cap2) a (intVals (S.take a)) rfl (OwnI.row HO2.out (by rw [List.length_take, HSl.out]; omega) hg2) ⟨g1, 0, none⟩ (1 + (K - a)) cap1 (intVals ((X : Int) :: S.drop a)) rfl ?qd1 ?qd2 ?qd3 ?qd4 ?qd5 ?qd6 ?_)
                  case qd1 => rw [intVals_length, List.length_cons, List.length_drop, HSl.out]; omega
                  case qd2 => exact news_ofI (n := 1 + (K - a)) (by rw [List.length_cons, List.length_drop, HSl.out]; omega) HR5.out.reads (fun _ _ => rfl)
                  case qd3 => exact intVals_one _
                  case qd4 => unfold maxLen; omega
                  case qd5 => omega
                  case qd6 => exact HB5.out.size
                  intro v2 w6 hown2 hgrow2 _
                  rw [show a + (1 + (K - a)) = K + 1 by omega] at hown2
                  obtain ⟨g3, cap3', rfl⟩ : ∃ g3 cap3', v2 = .slice (some ⟨g3, 0, none⟩) (K + 1) cap3' := by
                    rcases hown2.2 with ⟨_, h0⟩ | ⟨g1, cap1, cur, hv, _⟩
                    · omega
                    · exact ⟨g1, cap1, hv⟩
                  have hSn : dscI ((ctU xs i).2 ++ [(X : Int)]) = S.take a ++ (X : Int) :: S.drop a := by
                    have h := dscI_step (xs := (ctU xs i).2) (x := (X : Int)) (a := a) (by rw [HS.out, HSl.out]; exact ha) (by rw [HS.out]; exact HA.out) (by rw [HS.out, HSl.out]; exact hA.out)
                    rw [h, HS.out]
                  have hO3 := OwnI.of_row (n := K + 1) (xs := S.take a ++ (X : Int) :: S.drop a) (by rw [intVals_append]; exact hown2) (by rw [List.length_append, List.length_take, List.length_cons, List.length_drop, HSl.out]; omega)
                  have hB6 : Below w4.heap.size w4 w6 := HB5.out.grown hgrow2 HB5.out.size (fun k hk => by have e1 : g2 = k := Option.some.inj hk; omega)
                  have HF := hid (And.intro hSn (And.intro hO3 (And.intro hB6 (HM4.out.on hB6))))
                  clear hown2 hgrow2 hSn hO3 hB6
                  go_wp2
                  go_roundw
                  case rel =>
                    refine ⟨i + 1, g3, K + 1, cap3', _, _, by omega, by omega, by go_num, rfl, ?_, hid (by have h := ctU_go (HC.out.trans (cwN_met _ _ HQ.out)); rw [h]), hid (by rw [ctU_go (HC.out.trans (cwN_met _ _ HQ.out)), if_neg (by omega)]; exact HF.out.1), hid (by rw [List.length_append, List.length_take, List.length_cons, List.length_drop, HSl.out]; omega), hid HF.out.2.2.2, hid HF.out.2.1.1, hid (bfrom (hB.out.trans (HB4.out.mono (by have := hB.out.size; omega))) HF.out.2.2.1)⟩
                    have := HF.out.2.1.2; have := HB4.out.size; have := hB.out.size; omega
                  case measure => simp [intOf]; omega
              · have hz : 0 < a := by omega
                have e1 : IntKind.i64.wrap ((a : Int) - 1) = (a : Int) - 1 := IntWalk.i64_in _ (by omega)
                have e2 : ((a : Int) - 1).toNat = a - 1 := by omega
                have e3 : (0 : Int) ≤ (a : Int) - 1 := by omega
                have e4 : (a : Int) - 1 < (K : Int) := by omega
                have e5 : a - 1 < K := by omega
                have hcy := hO.out.cellK (i := a - 1) (by rw [HSl.out]; omega)
                obtain ⟨y, hy⟩ : ∃ y, eI S (a - 1) = y := ⟨_, rfl⟩
                rw [hy] at hcy
                have HY := hid hy
                clear hy
                by_cases g1 : y < (X : Int)
                · have g1' : decide (y < (X : Int)) = true := by simpa using g1
                  have G1 := hid g1
                  clear g1
                  go_wp2
                  go_roundw
                  case rel => exact ⟨a - 1, by omega, by go_num, hid (fun _ => by rw [HY.out]; have := G1.out; omega), by trivial⟩
                  case measure => simp [intOf]; omega
                · have g1' : decide (y < (X : Int)) = false := by simpa using g1
                  have HA := hid (show (0 < a → (X : Int) ≤ eI S (a - 1)) from fun _ => by rw [HY.out]; omega)
                  clear g1
                  by_cases hac : a < cap0
                  · go_wp2_with (at_builtin; go_loud (refine wpList_append_own _ rfl (.tmp 64) (.tmp 67) 34 rfl wr.heap.size 2 j0 (.int .i64 0) 1 8 Try.underlying34 Hj.out hy0 hy1 hy2 rfl (by decide) (.slice (some ⟨wr.heap.size, 0, none⟩) 1 1) 1 (intVals [(X : Int)]) rfl (OwnI.row (own_one wr _ (X : Int) rfl) rfl (Nat.le_refl _)) ⟨g0, a, none⟩ (K - a) (cap0 - a) (intVals (S.drop a)) ?qx ?qc1 ?qc2 ?qc3 ?qc4 ?qc5 ?qc6 ?_))
                    case qx => simp [Act.eval]
                    case qc1 => rw [intVals_length, List.length_drop, HSl.out, Nat.mul_one]
                    case qc2 => intro k u hk; have hkl : k < (S.drop a).length := (by have := (List.getElem?_eq_some_iff.1 hk).1; rwa [intVals_length] at this); rw [intVals_at hkl] at hk; rw [List.length_drop, HSl.out] at hkl; have h := hO.out.cellK (i := a + k) (by rw [HSl.out]; omega); rw [Addr.add_lit, ← hk, (bcells (on_alloc wr _)).1 _ _ hO.out.lt, h]; congr 2; rw [eI_lt (by rw [HSl.out]; omega), eI_lt (by rw [List.length_drop, HSl.out]; omega), List.getElem_drop]
                    case qc3 => exact intVals_one _
                    case qc4 => unfold maxLen; omega
                    case qc5 => omega
                    case qc6 => simp
                    intro v1 w4 hown1 hgrow1 _
                    obtain ⟨g1, cap1, rfl⟩ : ∃ g1 cap1, v1 = .slice (some ⟨g1, 0, none⟩) (1 + (K - a)) cap1 := by
                      rcases hown1.2 with ⟨_, h0⟩ | ⟨g1, cap1, cur, hv, _⟩
                      · omega
                      · exact ⟨g1, cap1, hv⟩
                    have hB4 : Below wr.heap.size wr w4 := (on_alloc wr _).grown hgrow1 (by simp) (fun k hk => by have e1 : wr.heap.size = k := Option.some.inj hk; omega)
                    have HB4 := hid hB4
                    have HR1 := hid (OwnI.of_row (n := 1 + (K - a)) (xs := (X : Int) :: S.drop a) hown1 (by rw [List.length_cons, List.length_drop, HSl.out]; omega)).1
                    have HO4 := hid (hO.out.on hB4)
                    have HM4 := hid (hM.out.on hB4)
                    have hg04 := HO4.out.lt
                    have hac0 : a ≤ cap0 := by have := hO.out.le; have := HSl.out; omega
                    clear hown1 hgrow1 hB4
                    go_wp2_with fail
                    refine (sOwnI_any g0 0 a cap0 (S.take a) _ (by rw [List.length_take, HSl.out]; omega) (by omega) (fun k hk => by rw [List.length_take, HSl.out] at hk; have h := HO4.out.reads k (by rw [HSl.out]; omega); rw [h]; congr 2; rw [eI_lt (by rw [HSl.out]; omega), eI_lt (by rw [List.length_take, HSl.out]; omega), List.getElem_take]) hg04).mono ?_
                    rintro e5 w5 ⟨g2, cap2, rfl, hg2, hO2, hB5⟩
                    have HB5 := hid hB5
                    have HO2 := hid hO2
                    have HR5 := hid (HR1.out.on hB5)
                    clear hB5 hO2
                    go_wp2_with (at_builtin; refine wpList_append_own _ rfl (.tmp 72) (.tmp 73) 34 rfl w4.heap.size 2 j0 (.int .i64 0) 1 8 Try.underlying34 Hj.out hy0 hy1 hy2 rfl (by decide) (.slice (some ⟨g2, 0, none⟩) a cap2) a (intVals (S.take a)) rfl (OwnI.row HO2.out (by rw [List.length_take, HSl.out]; omega) hg2) ⟨g1, 0, none⟩ (1 + (K - a)) cap1 (intVals ((X : Int) :: S.drop a)) rfl ?qd1 ?qd2 ?qd3 ?qd4 ?qd5 ?qd6 ?_)
                    case qd1 => rw [intVals_length, List.length_cons, List.length_drop, HSl.out]; omega
                    case qd2 => exact news_ofI (n := 1 + (K - a)) (by rw [List.length_cons, List.length_drop, HSl.out]; omega) HR5.out.reads (fun _ _ => rfl)
                    case qd3 => exact intVals_one _
                    case qd4 => unfold maxLen; omega
                    case qd5 => omega
                    case qd6 => exact HB5.out.size
                    intro v2 w6 hown2 hgrow2 _
                    rw [show a + (1 + (K - a)) = K + 1 by omega] at hown2
                    obtain ⟨g3, cap3', rfl⟩ : ∃ g3 cap3', v2 = .slice (some ⟨g3, 0, none⟩) (K + 1) cap3' := by
                      rcases hown2.2 with ⟨_, h0⟩ | ⟨g1, cap1, cur, hv, _⟩
                      · omega
                      · exact ⟨g1, cap1, hv⟩
                    have hSn : dscI ((ctU xs i).2 ++ [(X : Int)]) = S.take a ++ (X : Int) :: S.drop a := by
                      have h := dscI_step (xs := (ctU xs i).2) (x := (X : Int)) (a := a) (by rw [HS.out, HSl.out]; exact ha) (by rw [HS.out]; exact HA.out) (by rw [HS.out, HSl.out]; exact hA.out)
                      rw [h, HS.out]
                    have hO3 := OwnI.of_row (n := K + 1) (xs := S.take a ++ (X : Int) :: S.drop a) (by rw [intVals_append]; exact hown2) (by rw [List.length_append, List.length_take, List.length_cons, List.length_drop, HSl.out]; omega)
                    have hB6 : Below w4.heap.size w4 w6 := HB5.out.grown hgrow2 HB5.out.size (fun k hk => by have e1 : g2 = k := Option.some.inj hk; omega)
                    have HF := hid (And.intro hSn (And.intro hO3 (And.intro hB6 (HM4.out.on hB6))))
                    clear hown2 hgrow2 hSn hO3 hB6
                    go_wp2
                    go_roundw
                    case rel =>
                      refine ⟨i + 1, g3, K + 1, cap3', _, _, by omega, by omega, by go_num, rfl, ?_, hid (by have h := ctU_go (HC.out.trans (cwN_met _ _ HQ.out)); rw [h]), hid (by rw [ctU_go (HC.out.trans (cwN_met _ _ HQ.out)), if_neg (by omega)]; exact HF.out.1), hid (by rw [List.length_append, List.length_take, List.length_cons, List.length_drop, HSl.out]; omega), hid HF.out.2.2.2, hid HF.out.2.1.1, hid (bfrom (hB.out.trans (HB4.out.mono (by have := hB.out.size; omega))) HF.out.2.2.1)⟩
                      have := HF.out.2.1.2; have := HB4.out.size; have := hB.out.size; omega
                    case measure => simp [intOf]; omega
                  · have hca : a = cap0 := by (have := hO.out.le; have := HSl.out; omega)
                    subst hca
                    go_wp2_with (at_builtin; go_loud (refine wpList_append_own _ rfl (.tmp 64) (.tmp 67) 34 rfl wr.heap.size 2 j0 (.int .i64 0) 1 8 Try.underlying34 Hj.out hy0 hy1 hy2 rfl (by decide) (.slice (some ⟨wr.heap.size, 0, none⟩) 1 1) 1 (intVals [(X : Int)]) rfl (OwnI.row (own_one wr _ (X : Int) rfl) rfl (Nat.le_refl _)) ⟨g0, 0, none⟩ (K - a) (a - a) (intVals (S.drop a)) ?qx ?qc1 ?qc2 ?qc3 ?qc4 ?qc5 ?qc6 ?_))
                    case qx => simp [Act.eval]
                    case qc1 => rw [intVals_length, List.length_drop, HSl.out, Nat.mul_one]
                    case qc2 => intro k u hk; have hkl : k < (S.drop a).length := (by have := (List.getElem?_eq_some_iff.1 hk).1; rwa [intVals_length] at this); rw [List.length_drop, HSl.out] at hkl; have := hO.out.le; have := HSl.out; omega
                    case qc3 => exact intVals_one _
                    case qc4 => unfold maxLen; omega
                    case qc5 => omega
                    case qc6 => simp
                    intro v1 w4 hown1 hgrow1 _
                    obtain ⟨g1, cap1, rfl⟩ : ∃ g1 cap1, v1 = .slice (some ⟨g1, 0, none⟩) (1 + (K - a)) cap1 := by
                      rcases hown1.2 with ⟨_, h0⟩ | ⟨g1, cap1, cur, hv, _⟩
                      · omega
                      · exact ⟨g1, cap1, hv⟩
                    have hB4 : Below wr.heap.size wr w4 := (on_alloc wr _).grown hgrow1 (by simp) (fun k hk => by have e1 : wr.heap.size = k := Option.some.inj hk; omega)
                    have HB4 := hid hB4
                    have HR1 := hid (OwnI.of_row (n := 1 + (K - a)) (xs := (X : Int) :: S.drop a) hown1 (by rw [List.length_cons, List.length_drop, HSl.out]; omega)).1
                    have HO4 := hid (hO.out.on hB4)
                    have HM4 := hid (hM.out.on hB4)
                    have hg04 := HO4.out.lt
                    have hac0 : True := trivial
                    clear hown1 hgrow1 hB4
                    go_wp2_with fail
                    refine (sOwnI_any g0 0 a a (S.take a) _ (by rw [List.length_take, HSl.out]; omega) (by omega) (fun k hk => by rw [List.length_take, HSl.out] at hk; have h := HO4.out.reads k (by rw [HSl.out]; omega); rw [h]; congr 2; rw [eI_lt (by rw [HSl.out]; omega), eI_lt (by rw [List.length_take, HSl.out]; omega), List.getElem_take]) hg04).mono ?_
                    rintro e5 w5 ⟨g2, cap2, rfl, hg2, hO2, hB5⟩
                    have HB5 := hid hB5
                    have HO2 := hid hO2
                    have HR5 := hid (HR1.out.on hB5)
                    clear hB5 hO2
                    go_wp2_with (at_builtin; refine wpList_append_own _ rfl (.tmp 72) (.tmp 73) 34 rfl w4.heap.size 2 j0 (.int .i64 0) 1 8 Try.underlying34 Hj.out hy0 hy1 hy2 rfl (by decide) (.slice (some ⟨g2, 0, none⟩) a cap2) a (intVals (S.take a)) rfl (OwnI.row HO2.out (by rw [List.length_take, HSl.out]; omega) hg2) ⟨g1, 0, none⟩ (1 + (K - a)) cap1 (intVals ((X : Int) :: S.drop a)) rfl ?qd1 ?qd2 ?qd3 ?qd4 ?qd5 ?qd6 ?_)
                    case qd1 => rw [intVals_length, List.length_cons, List.length_drop, HSl.out]; omega
                    case qd2 => exact news_ofI (n := 1 + (K - a)) (by rw [List.length_cons, List.length_drop, HSl.out]; omega) HR5.out.reads (fun _ _ => rfl)
                    case qd3 => exact intVals_one _
                    case qd4 => unfold maxLen; omega
                    case qd5 => omega
                    case qd6 => exact HB5.out.size
                    intro v2 w6 hown2 hgrow2 _
                    rw [show a + (1 + (K - a)) = K + 1 by omega] at hown2
                    obtain ⟨g3, cap3', rfl⟩ : ∃ g3 cap3', v2 = .slice (some ⟨g3, 0, none⟩) (K + 1) cap3' := by
                      rcases hown2.2 with ⟨_, h0⟩ | ⟨g1, cap1, cur, hv, _⟩
                      · omega
                      · exact ⟨g1, cap1, hv⟩
                    have hSn : dscI ((ctU xs i).2 ++ [(X : Int)]) = S.take a ++ (X : Int) :: S.drop a := by
                      have h := dscI_step (xs := (ctU xs i).2) (x := (X : Int)) (a := a) (by rw [HS.out, HSl.out]; exact ha) (by rw [HS.out]; exact HA.out) (by rw [HS.out, HSl.out]; exact hA.out)
                      rw [h, HS.out]
                    have hO3 := OwnI.of_row (n := K + 1) (xs := S.take a ++ (X : Int) :: S.drop a) (by rw [intVals_append]; exact hown2) (by rw [List.length_append, List.length_take, List.length_cons, List.length_drop, HSl.out]; omega)
                    have hB6 : Below w4.heap.size w4 w6 := HB5.out.grown hgrow2 HB5.out.size (fun k hk => by have e1 : g2 = k := Option.some.inj hk; omega)
                    have HF := hid (And.intro hSn (And.intro hO3 (And.intro hB6 (HM4.out.on hB6))))
                    clear hown2 hgrow2 hSn hO3 hB6
                    go_wp2
                    go_roundw
                    case rel =>
                      refine ⟨i + 1, g3, K + 1, cap3', _, _, by omega, by omega, by go_num, rfl, ?_, hid (by have h := ctU_go (HC.out.trans (cwN_met _ _ HQ.out)); rw [h]), hid (by rw [ctU_go (HC.out.trans (cwN_met _ _ HQ.out)), if_neg (by omega)]; exact HF.out.1), hid (by rw [List.length_append, List.length_take, List.length_cons, List.length_drop, HSl.out]; omega), hid HF.out.2.2.2, hid HF.out.2.1.1, hid (bfrom (hB.out.trans (HB4.out.mono (by have := hB.out.size; omega))) HF.out.2.2.1)⟩
                      have := HF.out.2.1.2; have := HB4.out.size; have := hB.out.size; omega
                    case measure => simp [intOf]; omega
    · obtain rfl : i = m := by omega
      go_wp2
      go_ret2
      have hO' := hO.out
      rw [hSd.out]
      rw [hSlen.out]
      exact ⟨some ⟨g0, 0, none⟩, cap0, rfl, FreshI.of_own hO' hSlen.out (by omega), hB.out⟩

end Go.Proofs.Ytbimllpfbgjajaa
