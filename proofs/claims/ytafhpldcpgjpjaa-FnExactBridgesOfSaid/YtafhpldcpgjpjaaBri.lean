/- BridgesOf: as plain lists, in the model, in the program. -/
import Derived.Test.YtafhpldcpgjpjaaCutEI
import Derived.Deep.RegionHeld3
import Derived.Deep.DeepCutAuto
namespace Go.Proofs.Ytafhpldcpgjpjaa
open Go.RowKit

def briU (N : Nat) (es : List (Int × Int)) (k : Nat) : List Int := ((List.range k).filter fun (e : Nat) => cutE N es [(e : Int)]).map fun (i : Nat) => (i : Int)
theorem briU_yes {N : Nat} {es : List (Int × Int)} {k : Nat} (h : cutE N es [(k : Int)] = true) : briU N es (k + 1) = briU N es k ++ [(k : Int)] := by
  unfold briU
  rw [List.range_succ, List.filter_append, List.map_append]
  simp [h]
theorem briU_no {N : Nat} {es : List (Int × Int)} {k : Nat} (h : cutE N es [(k : Int)] = false) : briU N es (k + 1) = briU N es k := by
  unfold briU
  rw [List.range_succ, List.filter_append, List.map_append]
  simp [h]
theorem briU_len (N : Nat) (es : List (Int × Int)) (k : Nat) : (briU N es k).length ≤ k := by
  unfold briU
  rw [List.length_map]
  exact Nat.le_trans (List.length_filter_le _ _) (by simp)
theorem one_set {n e : Nat} (h : e < n) : isSetP n [(e : Int)] := fun i hi => by
  obtain rfl : i = 0 := by simpa using hi
  exact ⟨by simp [eI]; omega, fun h => by omega⟩

def fBridgesOf (s : Int) (es : List (Int × Int)) : List Int × Int := if IsG s es then (briU s.toNat es es.length, 0) else ([], 1)
theorem fBridgesOf_len (s : Int) (es : List (Int × Int)) (h : es.length ≤ 1048576) : (fBridgesOf s es).1.length ≤ 1048576 := by
  unfold fBridgesOf
  split
  · exact Nat.le_trans (briU_len _ _ _) h
  · simp


set_option maxRecDepth 100000 in
set_option maxHeartbeats 8000000 in
theorem sBridges_any (N : Nat) (b off n c : Nat) (es : List (Int × Int)) (w : World) (hn : es.length = n) (hr : ReadsE w b off es) (g : IsG N es) :
    Calls Try.prog 69 #[.agg #[.int .i64 N, .slice (some ⟨b, off, none⟩) n c]] w fun e' w' => ∃ q cap, e' = .returned (.slice q (briU N es n).length cap) ∧ FreshI w.heap.size w' q (briU N es n).length cap (briU N es n) ∧ Below w.heap.size w w' := by
  have hn30 : n ≤ 30 := by have := isG_len g; omega
  have hN4 : N ≤ 20 := by have := g.1.1.2.1; omega
  have Hn := hid hn
  have Hr := hid hr
  have G := hid g
  have HEI := hid (endsIn_of g)
  obtain ⟨i0, hi, hz0, hz1, hz2⟩ := info_parts infoInt
  have Hi := hid hi
  obtain ⟨m2, hm2⟩ : ∃ m, numP N es = m := ⟨_, rfl⟩
  have HM2 := hid hm2
  clear hn hr g hi hm2
  go_enter Try.func69, Try.ntmps69
  have HX0 := hid ((Box.new w N (some ⟨b, off, none⟩) n c 31).on (on_alloc _ (.cells #[] 2)))
  have HB0 := hid (bfrom (on_alloc w (.cells #[.int .i64 N, .slice (some ⟨b, off, none⟩) n c] 31)) (on_alloc _ (.cells #[] 2)))
  have HO0 := hid (show OwnI ((w.alloc (.cells #[.int .i64 N, .slice (some ⟨b, off, none⟩) n c] 31)).alloc (.cells #[] 2)) (w.heap.size + 1) 0 [] from own_nil _ _ (by simp))
  go_wp2_with fail
  refine (sParts_any N _ n c es _ Hn.out hn30 hN4 (SeesE.on (.inr ⟨b, off, rfl, Hr.out⟩) HB0.out) HEI.out).mono ?_
  rw [HM2.out]
  rintro e w2 ⟨rfl, hb2⟩
  have HB2 := hid (bfrom HB0.out hb2)
  have HX2 := hid (HX0.out.on hb2)
  have HO2 := hid (HO0.out.on hb2)
  clear hb2
  go_wp2
  go_loopw [3, 5] (fun u ee wr => ∃ (e l cap g : Nat), e ≤ n ∧ l ≤ e ∧ u = .slice (some ⟨g, 0, none⟩) l cap ∧ ee = .int .i64 e ∧ Hid (OwnI wr g cap (briU N es e) ∧ (briU N es e).length = l ∧ w.heap.size + 1 ≤ g) ∧ Hid (Below w.heap.size w wr ∧ Box wr w.heap.size N (some ⟨b, off, none⟩) n c)) (fun _ ee _ => n - (intOf ee).toNat)
  case atStart => exact ⟨0, 0, 0, _, Nat.zero_le _, Nat.le_refl _, rfl, rfl, hid ⟨HO2.out, rfl, Nat.le_refl _⟩, hid ⟨HB2.out, HX2.out⟩⟩
  case round =>
    obtain ⟨e, l, cap, g, he, hle, rfl, rfl, hO, hBe⟩ := hrel
    clear HO2 HX2 HB2
    have hxr := hBe.out.2.1
    have hyr := hBe.out.2.2
    have hzr := hBe.out.2.lt
    by_cases hlt : e < n
    · obtain ⟨m1, hm1⟩ : ∃ m, numP N (restE es [(e : Int)]) = m := ⟨_, rfl⟩
      have HM1 := hid hm1
      have HL := hid (show (restE es [(e : Int)]).length ≤ 30 by have := restU_len es [(e : Int)] es.length; have := Hn.out; unfold restE; omega)
      have hl63 : l + 1 ≤ 31 := by omega
      clear hm1
      obtain ⟨wo, rfl⟩ : ∃ wo : World, wo = wr := ⟨_, rfl⟩
      have HBw := hid hBe.out.1
      have hgz := hO.out.1.lt
      go_upto_region 5 with fail
      go_cut [27] (fun z wx => z = .bool (decide (m2 < m1)) ∧ Hid (Below wo.heap.size wo wx))
      case first =>
        go_region_held3 (fun w' => w'.cell? ⟨w.heap.size, 0, none⟩ = some (.int .i64 N) ∧ w'.cell? ⟨w.heap.size, 1, none⟩ = some (.slice (some ⟨b, off, none⟩) n c)) (go_keep) (first
          | (go_at_call 76; refine (sRest_any N b off n c 1 1 _ es [(e : Int)] _ Hn.out hn30 ?_ rfl (by omega) ?_ (one_set hlt)).mono ?_; (exact (Hr.out.on HBw.out).on (by have := Below.refl wo.heap.size wo; go_grown)); (first | exact .inr ⟨_, 0, rfl, reads_one _ _ _ _ (by simp)⟩ | exact SeesI.on (.inr ⟨wo.heap.size, 0, rfl, reads_one wo _ _ _ rfl⟩) (Below.refl _ _).drew); rintro e' w4 ⟨qR, cR, rfl, hf4, hb4⟩; have hb4' : Below wo.heap.size wo w4 := bfrom (by have := Below.refl wo.heap.size wo; go_grown) hb4; have hc4 := ((bcells hb4').1 _ _ hzr).trans hxr; have hd4 := ((bcells hb4').1 _ _ hzr).trans hyr; have hz4 : w.heap.size < w4.heap.size := by (have := hb4'.size; omega))
          | (go_at_call 79; refine (sParts_any N qR _ cR (restE es [(e : Int)]) _ rfl HL.out hN4 hf4.sees (rest_ends HEI.out)).mono ?_; rw [HM1.out]; rintro e' w5 ⟨rfl, hb5⟩; have hc5 := ((bcells hb5).1 _ _ hz4).trans hc4; have hd5 := ((bcells hb5).1 _ _ hz4).trans hd4; have hb5' : Below wo.heap.size wo w5 := bfrom hb4' hb5))
        all_goals
          go_wp2_with fail
          go_meet
          exact ⟨by first | rfl | simp, hid (by first | exact hb5' | exact bdn.mpr hb5')⟩
      case rest =>
      obtain ⟨rfl, hcb⟩ := hcut
      obtain ⟨w6, rfl⟩ : ∃ w6, w6 = wc := ⟨_, rfl⟩
      have HB6 := hid (hBe.out.1.trans (hcb.out.mono HBw.out.size))
      have HX6 := hid (hBe.out.2.on hcb.out)
      have HO6 := hid (hO.out.1.on hcb.out)
      have hz6 := HB6.out.size
      have hgz6 := HO6.out.lt
      have hcutE : cutE N es [(e : Int)] = decide (m2 < m1) := by unfold cutE; rw [HM1.out, HM2.out]
      have HCut := hid hcutE
      have hg1 := hO.out.2.2
      clear hcb hxr hyr hzr hcutE
      by_cases hmm : m2 < m1
      · have HR := hid (show cutE N es [(e : Int)] = true by rw [HCut.out]; simpa using hmm)
        go_wp2_with (at_builtin; go_must (refine wpList_append_lies _ rfl (.tmp 28) (.tmp 30) 44 rfl (w.heap.size + 1) 2 i0 (.int .i64 0) 1 8 Try.underlying44 Hi.out hz0 hz1 hz2 rfl (by decide) (.slice (some ⟨g, 0, none⟩) l cap) l _ rfl (OwnI.row (HO6.out.alloc _) hO.out.2.1 hO.out.2.2) ⟨w6.heap.size, 0, none⟩ 1 1 [.int .i64 e] rfl rfl (World.news_of_block (cs := #[.int .i64 e]) (t := 2) (fr := (0, 0)) (heap_alloc_new _ _)) (by simp [Value.oneCell']) (by decide) (by unfold maxLen; omega) (by omega) (by simp; omega) (w6.heap.size + 1) (by simp) ?_); intro g7 cap7 w7 hown1 hgrow1 hlie hg7; have Hown := hid hown1; have Hgrow := hid hgrow1; clear hown1 hgrow1 hlie)
        go_roundw
        case rel =>
          obtain ⟨o1, o2⟩ := OwnI.of_row (xs := briU N es (e + 1)) (n := l + 1) (by rw [briU_yes HR.out, intVals_append]; exact Hown.out) (by rw [briU_yes HR.out, List.length_append, hO.out.2.1]; rfl)
          exact ⟨e + 1, l + 1, cap7, g7, by omega, by omega, rfl, by go_num, hid ⟨o1, by rw [briU_yes HR.out, List.length_append, hO.out.2.1]; rfl, o2⟩, hid ⟨(HB6.out.alloc hz6 _).grown Hgrow.out (by simp; omega) (fun j hj => by cases hj; show w.heap.size ≤ g; omega), (HX6.out.on (on_alloc _ _)).kept Hgrow.out (fun h => by have := Option.some.inj h; have : w.heap.size = g := this; omega)⟩⟩
        case measure => simp [intOf]; omega
      · have HR := hid (show cutE N es [(e : Int)] = false by rw [HCut.out]; simpa using hmm)
        go_wp2
        go_roundw
        case rel => exact ⟨e + 1, l, cap, g, by omega, by omega, rfl, by go_num, hid (by rw [briU_no HR.out]; exact ⟨HO6.out, hO.out.2⟩), hid ⟨HB6.out, HX6.out⟩⟩
        case measure => simp [intOf]; omega
    · obtain rfl : e = n := by omega
      go_wp2
      go_ret
      exact ⟨_, cap, by rw [hO.out.2.1]; rfl, FreshI.less (FreshI.of_own hO.out.1 rfl (Nat.le_refl _)) (by have := hO.out.2.2; omega), hBe.out.1⟩

set_option maxRecDepth 100000 in
set_option maxHeartbeats 2000000 in
theorem sBridgesOf_any (s : Int) (p : Option Addr) (n c : Nat) (es : List (Int × Int)) (w : World) (hm : n ≤ 1048576) (hn : es.length = n) (hr : SeesE w p es) :
    Calls Try.prog 34 #[.agg #[.int .i64 s, .slice p n c]] w fun e' w' => ∃ q cap, e' = .returned (.tuple #[.slice q (fBridgesOf s es).1.length cap, .int .i64 (fBridgesOf s es).2]) ∧ FreshI w.heap.size w' q (fBridgesOf s es).1.length cap (fBridgesOf s es).1 ∧ Below w.heap.size w w' := by
  have hm9 : n ≤ 9223372036854775807 := by omega
  unfold fBridgesOf
  by_cases g : IsG s es
  · rw [if_pos g]
    obtain ⟨b, off, rfl, rd⟩ := isG_sees g hr
    obtain ⟨N, rfl⟩ : ∃ N : Nat, s = N := ⟨_, (Int.toNat_of_nonneg (by have := g.1.1.1; omega)).symm⟩
    rw [Int.toNat_natCast, hn]
    have Hn := hid hn
    have Hr := hid rd
    have G := hid g
    clear hn hr g rd
    go_enter Try.func34, Try.ntmps34
    go_wp2_with fail
    refine (sIs_any _ _ _ _ es _ hm9 Hn.out (SeesE.on (.inr ⟨b, off, rfl, Hr.out⟩) (on_alloc _ _))).mono ?_
    rw [decide_eq_true G.out]
    rintro e w2 ⟨rfl, hb2⟩
    have HB2 := hid (bfrom (w := w) (on_alloc _ _) hb2)
    have hX2 := (Box.new w N (some ⟨b, off, none⟩) n c 31).on hb2
    have hx2 := hX2.1
    have hy2 := hX2.2
    have hz2 := hX2.lt
    clear hX2 hb2
    go_wp2_with fail
    refine (sBridges_any N b off n c es _ Hn.out (Hr.out.on HB2.out) G.out).mono ?_
    rintro e w3 ⟨q, cap, rfl, hf3, hb3⟩
    have HB3 := hid (bfrom HB2.out hb3)
    have HF3 := hid hf3
    clear hx2 hy2 hz2 hb3 hf3
    go_wp2
    go_ret2
    exact ⟨q, cap, rfl, HF3.out.less HB2.out.size, HB3.out⟩
  · rw [if_neg g]
    have Hn := hid hn
    have Hr := hid hr
    have G := hid g
    clear hn hr g
    go_enter Try.func34, Try.ntmps34
    go_wp2_with fail
    refine (sIs_any _ _ _ _ es _ hm9 Hn.out (Hr.out.on (on_alloc _ _))).mono ?_
    rw [decide_eq_false G.out]
    rintro e w2 ⟨rfl, hb2⟩
    have hB2 := bfrom (w := w) (by go_grown) hb2
    go_wp2
    go_ret2
    exact ⟨none, 0, rfl, FreshI.nil _ _, hB2⟩


set_option maxRecDepth 100000 in
set_option maxHeartbeats 2000000 in
theorem iBri_none (s : Int) (p : Option Addr) (n c : Nat) (es : List (Int × Int)) (w : World) (hm : n ≤ 1048576) (hn : es.length = n) (hr : SeesE w p es) (g : ¬ IsG s es) :
    Calls Try.prog 35 #[.agg #[.int .i64 s, .slice p n c]] w fun e' w' => e' = .returned (.tuple #[.slice none 0 0, .int .i64 1]) ∧ Below w.heap.size w w' := by
  have Hn := hid hn
  have Hr := hid hr
  have G := hid g
  clear hn hr g
  go_enter Try.func35, Try.ntmps35
  go_wp2_with fail
  refine (iIsGraph_any _ _ _ _ es _ hm Hn.out (Hr.out.on (on_alloc _ _))).mono ?_
  rw [decide_eq_false G.out]
  rintro e w2 ⟨rfl, hb2⟩
  have hB2 := bfrom (w := w) (by go_grown) hb2
  go_wp2
  go_ret2
  exact ⟨rfl, hB2⟩

set_option maxRecDepth 100000 in
set_option maxHeartbeats 8000000 in
theorem iBri_yes (N : Nat) (b off n c : Nat) (es : List (Int × Int)) (w : World) (hn : es.length = n) (hr : ReadsE w b off es) (g : IsG N es) :
    Calls Try.prog 35 #[.agg #[.int .i64 N, .slice (some ⟨b, off, none⟩) n c]] w fun e' w' => ∃ q cap, e' = .returned (.tuple #[.slice q (briU N es n).length cap, .int .i64 0]) ∧ FreshI w.heap.size w' q (briU N es n).length cap (briU N es n) ∧ Below w.heap.size w w' := by
  have hn30 : n ≤ 30 := by have := isG_len g; omega
  have Hn := hid hn
  have Hr := hid hr
  have G := hid g
  obtain ⟨i0, hi, hz0, hz1, hz2⟩ := info_parts infoInt
  have Hi := hid hi
  clear hn hr g hi
  go_enter Try.func35, Try.ntmps35
  go_wp2_with fail
  refine (iIsGraph_any _ _ _ _ es _ (by omega) Hn.out (SeesE.on (.inr ⟨b, off, rfl, Hr.out⟩) (on_alloc _ _))).mono ?_
  rw [decide_eq_true G.out]
  rintro e w2 ⟨rfl, hb2⟩
  have hB2 := bfrom (w := w) (on_alloc _ _) hb2
  have hX2 : Box w2 w.heap.size N (some ⟨b, off, none⟩) n c := (Box.new w (N : Int) (some ⟨b, off, none⟩) n c 31).on hb2
  have hx2 := hX2.1
  have hy2 := hX2.2
  have hz2' := hX2.lt
  have HB2 := hid hB2
  have HX2 := hid hX2
  clear hb2 hX2 hB2
  go_wp2
  go_loopw [4, 12] (fun u ee wr => ∃ (e l cap : Nat) (q : Option Addr), e ≤ n ∧ l ≤ e ∧ u = .slice q l cap ∧ ee = .int .i64 e ∧ Hid (wr.ownsRow w2.heap.size 2 1 (.slice q l cap) l (intVals (briU N es e)) ∧ (briU N es e).length = l) ∧ Hid (Below w2.heap.size w2 wr)) (fun _ ee _ => n - (intOf ee).toNat)
  case atStart => exact ⟨0, 0, 0, none, Nat.zero_le _, Nat.le_refl _, rfl, rfl, hid ⟨World.ownsRow_nil _ _ _ _, rfl⟩, hid (Below.refl _ _)⟩
  case round =>
    obtain ⟨e, l, cap, q, he, hle, rfl, rfl, hO, hBe⟩ := hrel
    by_cases hlt : e < n
    · have HBw := hid (bfrom HB2.out hBe.out)
      have HXr := hid (HX2.out.on hBe.out)
      have hxr := HXr.out.1
      have hyr := HXr.out.2
      have hzr := HXr.out.lt
      obtain ⟨r, hr1⟩ : ∃ r, cutE N es [(e : Int)] = r := ⟨_, rfl⟩
      have HR := hid hr1
      have hl63 : l + 1 ≤ 31 := by omega
      clear hr1
      obtain ⟨wo, rfl⟩ : ∃ wo : World, wo = wr := ⟨_, rfl⟩
      cases r
      · go_wp2_with fail
        refine (iCutB_any N b off n c 1 1 _ es [(e : Int)] _ Hn.out ((Hr.out.on HBw.out).on (on_alloc _ _)) G.out (by omega) rfl (.inr ⟨_, 0, rfl, reads_one wo _ _ _ rfl⟩)).mono ?_
        rw [HR.out]
        rintro e' w4 ⟨rfl, hb4⟩
        have HB4 := hid (bfrom (w := wo) (on_alloc _ _) hb4)
        clear hb4 hxr hyr hzr
        go_wp2
        go_roundw
        case rel => exact ⟨e + 1, l, cap, q, by omega, by omega, rfl, by go_num, hid (by rw [briU_no HR.out]; exact ⟨hO.out.1.kept (grown_below HB4.out) (by cases hq : (Value.slice q l cap).ownBlock with | none => exact .inl rfl | some g => exact .inr (by simp)), hO.out.2⟩), hid (hBe.out.trans (HB4.out.mono hBe.out.size))⟩
        case measure => simp [intOf]; omega
      · go_wp2_with fail
        refine (iCutB_any N b off n c 1 1 _ es [(e : Int)] _ Hn.out ((Hr.out.on HBw.out).on (on_alloc _ _)) G.out (by omega) rfl (.inr ⟨_, 0, rfl, reads_one wo _ _ _ rfl⟩)).mono ?_
        rw [HR.out]
        rintro e' w4 ⟨rfl, hb4⟩
        have hB4 := bfrom (w := wo) (on_alloc _ _) hb4
        have HB4 := hid hB4
        have HO4 := hid (show w4.ownsRow w2.heap.size 2 1 (.slice q l cap) l (intVals (briU N es e)) from hO.out.1.kept (grown_below hB4) (by cases hq : (Value.slice q l cap).ownBlock with | none => exact .inl rfl | some g => exact .inr (by simp)))
        have HB5 := hid (hBe.out.trans (hB4.mono hBe.out.size))
        have hz5 := HB5.out.size
        clear hb4 hB4 hxr hyr hzr
        go_wp2_with (at_builtin; go_must (refine wpList_append_lies _ rfl (.tmp 19) (.tmp 21) 44 rfl w2.heap.size 2 i0 (.int .i64 0) 1 8 Try.underlying44 Hi.out hz0 hz1 hz2 rfl (by decide) (.slice q l cap) l _ rfl (HO4.out.alloc _) ⟨w4.heap.size, 0, none⟩ 1 1 [.int .i64 e] rfl rfl (World.news_of_block (cs := #[.int .i64 e]) (t := 2) (fr := (0, 0)) (heap_alloc_new _ _)) (by simp [Value.oneCell']) (by decide) (by unfold maxLen; omega) (by omega) (by simp; omega) (w4.heap.size + 1) (by simp) ?_); intro g cap' w5 hown1 hgrow1 hlie hg1; have Hown := hid hown1; have Hgrow := hid hgrow1; clear hown1 hgrow1 hlie)
        have hrow : ∀ j, (Value.slice q l cap).ownBlock = some j → w2.heap.size ≤ j ∧ j < w4.heap.size := HO4.out.lt
        go_roundw
        case rel =>
          refine ⟨e + 1, l + 1, cap', some ⟨g, 0, none⟩, by omega, by omega, rfl, by go_num, hid ⟨?_, ?_⟩, hid ?_⟩
          · rw [briU_yes HR.out, intVals_append]; exact Hown.out
          · rw [briU_yes HR.out, List.length_append, hO.out.2]; rfl
          · exact (HB5.out.alloc hz5 _).grown Hgrow.out (by simp; omega) (fun j hj => by have := (hrow j hj).1; omega)
        case measure => simp [intOf]; omega
    · obtain rfl : e = n := by omega
      go_wp2
      go_ret2
      obtain ⟨ho1, rfl⟩ := hO.out
      exact ⟨q, cap, rfl, FreshI.less ⟨ho1, rfl⟩ (by have := HB2.out.size; omega), bfrom HB2.out hBe.out⟩

theorem iBridgesOf_any (s : Int) (p : Option Addr) (n c : Nat) (es : List (Int × Int)) (w : World) (hm : n ≤ 1048576) (hn : es.length = n) (hr : SeesE w p es) :
    Calls Try.prog 35 #[.agg #[.int .i64 s, .slice p n c]] w fun e' w' => ∃ q cap, e' = .returned (.tuple #[.slice q (fBridgesOf s es).1.length cap, .int .i64 (fBridgesOf s es).2]) ∧ FreshI w.heap.size w' q (fBridgesOf s es).1.length cap (fBridgesOf s es).1 ∧ Below w.heap.size w w' := by
  unfold fBridgesOf
  by_cases g : IsG s es
  · rw [if_pos g]
    obtain ⟨b, off, rfl, rd⟩ := isG_sees g hr
    obtain ⟨N, rfl⟩ : ∃ N : Nat, s = N := ⟨_, (Int.toNat_of_nonneg (by have := g.1.1.1; omega)).symm⟩
    rw [Int.toNat_natCast, hn]
    exact iBri_yes N b off n c es w hn rd g
  · rw [if_neg g]
    exact (iBri_none s p n c es w hm hn hr g).mono fun e w' ⟨he, hb⟩ => ⟨none, 0, he, FreshI.nil _ _, hb⟩

end Go.Proofs.Ytafhpldcpgjpjaa
