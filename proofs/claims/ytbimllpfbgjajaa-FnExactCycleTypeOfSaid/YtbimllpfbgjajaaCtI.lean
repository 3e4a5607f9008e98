/- CycleTypeOf in the program: the ways are walked, their lengths sorted and turned round. -/
import Derived.Test.YtbimllpfbgjajaaCtA
import Derived.Test.YtbimllpfbgjajaaRenA
import Derived.Test.YtbimllpfbgjajaaSortI
import Derived.Test.YtbimllpfbgjajaaRevI
import Derived.Test.YtbimllpfbgjajaaOwnS
import Derived.Laws.AppendOwnNone
namespace Go.Proofs.Ytbimllpfbgjajaa
open Go.RowKit

attribute [local go_sem] Oper.semAt_some

set_option maxRecDepth 100000 in
set_option maxHeartbeats 32000000 in
theorem iCt_yes (b off m c : Nat) (xs : List Int) (w : World) (hm1 : 1 ≤ m) (hm : m ≤ 20) (hl : xs.length = m) (hr : ReadsI w b off xs) (he : eachF (m : Int) xs) :
    Calls Try.prog 38 #[.slice (some ⟨b, off, none⟩) m c] w fun e w' => ∃ q cap, e = .returned (.tuple #[.slice q (dscI (ctU xs m).2).length cap, .int .i64 0]) ∧ FreshI w.heap.size w' q (dscI (ctU xs m).2).length cap (dscI (ctU xs m).2) ∧ Below w.heap.size w w' := by
  have Hl := hid hl
  have Hr := hid hr
  have HE := hid he
  obtain ⟨i0, hi, hz0, hz1, hz2⟩ := info_parts infoBool
  obtain ⟨j0, hj, hy0, hy1, hy2⟩ := info_parts infoInt
  have Hi := hid hi
  have Hj := hid hj
  have hbw := hr.lt (by omega)
  clear hl hr he hi hj
  go_enter Try.func38, Try.ntmps38
  go_wp2_with fail
  refine (iEach_any _ _ _ _ xs _ (by omega) (by omega) (by omega) Hl.out (.inr ⟨b, off, rfl, Hr.out⟩)).mono ?_
  rw [decide_eq_true HE.out]
  rintro e w2 ⟨rfl, hb2⟩
  have HB2 := hid hb2
  clear hb2
  go_wp2_with (at_make; refine wpList_make_full _ rfl _ _ 89 rfl w2.heap.size 4 i0 (.bool false) 1 Try.underlying89 Hi.out hz0 hz1 _ _ _ _ m rfl rfl rfl rfl (by rw [hz2]; omega) (by unfold maxLen; omega) (Nat.le_refl _) ?_; intro w3 hown hgrow; have hb3 := (Below.refl w2.heap.size w2).grown hgrow (Nat.le_refl _) (fun k e => by cases e); have Ho := hid (OwnB.made hown); have Hb := hid hb3; clear hown hgrow hb3)
  have HB3 := hid (bfrom HB2.out Hb.out)
  have hg2 : w2.heap.size < w3.heap.size := Ho.out.lt
  have hw2 := HB2.out.size
  go_loopw [5, 27] (fun out iv wr => ∃ (i K cap : Nat) (q : Option Addr) (M : List Bool), i ≤ m ∧ K ≤ i ∧ iv = .int .i64 i ∧ out = .slice q K cap ∧ Hid (ctU xs i = (M, (ctU xs i).2)) ∧ Hid ((ctU xs i).2.length = K) ∧ Hid (OwnB wr w2.heap.size m M) ∧ Hid (wr.ownsRow (w2.heap.size + 1) 2 1 (.slice q K cap) K (intVals (ctU xs i).2)) ∧ Hid (Below w.heap.size w wr)) (fun _ iv _ => m - (intOf iv).toNat)
  case atStart => exact ⟨0, 0, 0, none, _, Nat.zero_le _, Nat.zero_le _, rfl, rfl, hid rfl, hid rfl, hid (by have h := Ho.out; first | exact h | (show OwnB _ _ _ (List.replicate xs.length false); rw [Hl.out]; exact h)), hid (World.ownsRow_nil _ _ _ _), HB3⟩
  case round =>
    obtain ⟨i, K, cap0, q, M, hi, hKi, rfl, rfl, hU, hKl, hM, hO, hB⟩ := hrel
    by_cases hlt : i < m
    · have hlt' : (i : Int) < (m : Int) := by omega
      have hMl : M.length = m := by have h := ctU_len xs i; rw [hU.out] at h; rw [h, Hl.out]
      obtain ⟨wo, rfl⟩ : ∃ wo : World, wo = wr := ⟨_, rfl⟩
      have HC0 := hid (show cwN xs m M i 0 = cwN xs xs.length (ctU xs i).1 i 0 by rw [hU.out, Hl.out])
      have hct : M.count false ≤ m := by have := List.count_le_length (a := false) (l := M); omega
      have HMl := hid hMl
      have Hct := hid hct
      clear hMl hct
      go_wp2
      go_loopw [8, 9] (fun lv wv wk => ∃ (k W f : Nat) (M2 : List Bool), lv = .int .i64 k ∧ wv = .int .i64 W ∧ W < m ∧ Hid (M2.length = m ∧ M2.count false ≤ f ∧ k + M2.count false ≤ 20) ∧ Hid (cwN xs f M2 W k = cwN xs xs.length (ctU xs i).1 i 0) ∧ Hid (OwnB wk w2.heap.size m M2) ∧ Hid (wk.ownsRow (w2.heap.size + 1) 2 1 (.slice q K cap0) K (intVals (ctU xs i).2)) ∧ Hid (Below w.heap.size w wk)) (fun lv _ _ => 20 - (intOf lv).toNat)
      case atStart => exact ⟨0, i, m, M, rfl, rfl, hlt, hid ⟨HMl.out, Hct.out, by have := Hct.out; omega⟩, HC0, hM, hO, hB⟩
      case round =>
        clear hM hO hB
        obtain ⟨X, W, f, M2, rfl, rfl, hW, hN, HC, hM, hO, hB⟩ := hrel
        have hcm := hM.out.cell (i := W) (by rw [hN.out.1]; exact hW)
        have hfm := hM.out.free W
        have hgz := hM.out.lt
        have hW' : (W : Int) < (m : Int) := by omega
        cases hq : eL M2 W with
        | false =>
          have HQ := hid hq
          rw [hq] at hcm
          have hcnt := count_meet (by rw [hN.out.1]; exact hW) hq
          have Hcnt := hid hcnt
          have hX20 : X < 20 := by have := hN.out.2.2; omega
          have hc1 := Hr.out.on hB.out W (by rw [Hl.out]; exact hW)
          obtain ⟨Y, hY⟩ : ∃ Y : Nat, eI xs W = Y := ⟨_, (Int.toNat_of_nonneg (HE.out.2.1 W (by rw [Hl.out]; exact hW)).1).symm⟩
          have hYm : Y < m := by have := (HE.out.2.1 W (by rw [Hl.out]; exact hW)).2; omega
          rw [hY] at hc1
          have HY := hid hY
          have hne : b ≠ w2.heap.size := by omega
          clear hq hcnt hY
          obtain ⟨wv, rfl⟩ : ∃ wv : World, wv = wr := ⟨_, rfl⟩
          go_wp2
          go_roundw
          case rel =>
            obtain ⟨f', rfl, h1, h2⟩ := cwN_step xs (k := X) (by rw [hN.out.1]; exact hW) HQ.out hN.out.2.1
            refine ⟨X + 1, Y, f', M2.set W true, by go_num, rfl, hYm, hid ⟨by rw [List.length_set]; exact hN.out.1, h1, by have := hN.out.2.2; have := Hcnt.out; omega⟩, hid ?_, hid (hM.out.set (by rw [hN.out.1]; exact hW) true), hid (ownsRow_setCell_below hO.out (by show w2.heap.size < w2.heap.size + 1; omega) _), hid (hB.out.setCell (p := ⟨w2.heap.size, W, none⟩) (by show w.heap.size ≤ w2.heap.size; omega) _)⟩
            rw [← HC.out, h2, HY.out]
            rfl
          case measure => simp [intOf]; omega
        | true =>
          have HQ := hid hq
          rw [hq] at hcm
          have hX20 : X ≤ 20 := by have := hN.out.2.2; omega
          clear hq
          have HC := hid (HC.out.symm)
          by_cases h0 : X = 0
          · subst h0
            obtain ⟨wv, rfl⟩ : ∃ wv : World, wv = wr := ⟨_, rfl⟩
            go_wp2
            go_roundw
            case rel =>
              have h := ctU_go (HC.out.trans (cwN_met _ _ HQ.out))
              rw [if_pos rfl] at h
              exact ⟨i + 1, K, cap0, q, M2, by omega, by omega, by go_num, rfl, hid (by rw [h]), hid (by rw [h]; exact hKl.out), hM, hid (by rw [h]; exact hO.out), hB⟩
            case measure => simp [intOf]; omega
          · have hX0 : (0 : Int) < (X : Int) := by omega
            have hK20 : K ≤ 20 := by omega
            have hBs := hB.out.size
            obtain ⟨wv, rfl⟩ : ∃ wv : World, wv = wr := ⟨_, rfl⟩
            have hO1 := hO.out.kept (World.grownBy_alloc wv (.cells #[.int .i64 (X : Int)] 2) none) (by cases (Value.slice q K cap0).ownBlock <;> simp)
            go_wp2_with (at_builtin; go_loud (refine wpList_append_own _ rfl (.tmp 47) (.tmp 49) 34 rfl (w2.heap.size + 1) 2 j0 (.int .i64 0) 1 8 Try.underlying34 Hj.out hy0 hy1 hy2 rfl (by decide) (.slice q K cap0) K (intVals (ctU xs i).2) rfl hO1 ⟨wv.heap.size, 0, none⟩ 1 1 (intVals [(X : Int)]) rfl ?qd1 ?qd2 ?qd3 ?qd4 ?qd5 ?qd6 ?_))
            case qd1 => rfl
            case qd2 => exact news_ofI (n := 1) rfl (own_one wv _ (X : Int) rfl).reads (fun _ _ => rfl)
            case qd3 => exact intVals_one _
            case qd4 => unfold maxLen; omega
            case qd5 => omega
            case qd6 => simp; omega
            intro v1 w4 hown1 hgrow1 _
            obtain ⟨q1, cap1, rfl⟩ : ∃ q1 cap1, v1 = .slice q1 (K + 1) cap1 := by
              rcases hown1.2 with ⟨_, h0⟩ | ⟨g1, cap1, cur, hv, _⟩
              · omega
              · exact ⟨_, cap1, hv⟩
            have hB4 : Below (w2.heap.size + 1) (wv.alloc (.cells #[.int .i64 (X : Int)] 2)) w4 := (Below.refl _ _).grown hgrow1 (by simp; omega) (fun k hk => by have := (hO1.lt k hk).1; omega)
            have HB4 := hid (((Below.refl (w2.heap.size + 1) wv).alloc (by omega) (.cells #[.int .i64 (X : Int)] 2)).trans hB4)
            have HO4 := hid hown1
            clear hown1 hgrow1 hB4 hO1
            go_wp2
            go_roundw
            case rel =>
              have h := ctU_go (HC.out.trans (cwN_met _ _ HQ.out))
              rw [if_neg h0] at h
              exact ⟨i + 1, K + 1, cap1, q1, M2, by omega, by omega, by go_num, rfl, hid (by rw [h]), hid (by rw [h, List.length_append, hKl.out]; rfl), hid (hM.out.below HB4.out (by omega)), hid (by rw [h, intVals_append]; exact HO4.out), hid (hB.out.trans (HB4.out.mono (by omega)))⟩
            case measure => simp [intOf]; omega
    · obtain rfl : i = m := by omega
      have hK1 : 1 ≤ K := by
        have h := ctU_pos Hl.out hm1
        rw [hKl.out] at h
        exact h
      obtain ⟨gq, rfl, hOq, hgq⟩ : ∃ gq, q = some ⟨gq, 0, none⟩ ∧ OwnI wr gq cap0 (ctU xs i).2 ∧ w2.heap.size + 1 ≤ gq := by
        rcases hO.out.2 with ⟨_, h0⟩ | ⟨g1, cap1, cur, hv, hrest⟩
        · omega
        · injection hv with e1 e2 e3
          subst e1
          have h := OwnI.of_row hO.out hKl.out
          exact ⟨g1, rfl, h.1, h.2⟩
      have HOq := hid hOq
      clear hOq
      have hBs := hB.out.size
      go_wp2_with fail
      refine (sortI_any gq cap0 K _ _ HOq.out hKl.out (by omega)).mono ?_
      rintro e5 w5 ⟨rfl, ho5, hg5⟩
      have HO5 := hid ho5
      have HB5 := hid (hB.out.grown hg5 hBs (fun k hk => by have e1 : gq = k := Option.some.inj hk; omega))
      clear ho5 hg5
      go_wp2_with fail
      refine (revI_any w.heap.size gq cap0 K _ _ HO5.out (by rw [List.length_mergeSort]; exact hKl.out) hK1 (by omega) (by omega)).mono ?_
      rintro e6 w6 ⟨rfl, ho6, hb6⟩
      have HO6 := hid ho6
      have HB6 := hid (HB5.out.trans hb6)
      clear ho6 hb6
      go_wp2
      go_ret2
      have hd : (dscI (ctU xs i).2).length = K := by rw [dscI_len]; exact hKl.out
      rw [hd]
      exact ⟨some ⟨gq, 0, none⟩, cap0, rfl, FreshI.of_own HO6.out hd (by omega), HB6.out⟩

end Go.Proofs.Ytbimllpfbgjajaa
