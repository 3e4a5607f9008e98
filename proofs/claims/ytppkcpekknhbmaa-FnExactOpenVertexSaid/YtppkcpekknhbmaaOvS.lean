/- OpenVertex in the model. -/
import Derived.Test.YtppkcpekknhbmaaOvA
import Derived.Test.YtppkcpekknhbmaaBrgS
import Derived.Test.YtppkcpekknhbmaaSpecF
import Derived.Test.YtppkcpekknhbmaaSpecAt
import Derived.Test.YtppkcpekknhbmaaLawsF
import Derived.Deep.AppendLies
import Derived.Deep.DeepMust
import Derived.BigRegion
namespace Go.Proofs.Ytppkcpekknhbmaa
open Go.RowKit Go.Lib

theorem grown_belowO {w w' : World} (hb : Below w.heap.size w w') : w.grownBy w' none := ⟨hb.os, hb.tape, hb.output, hb.size, fun k hk _ => hb.block k hk⟩
theorem free_cellO (w : World) (c : Array Value) (t : TypeId) (o b : Nat) (hb : b = w.heap.size) : (w.alloc (.cells c t)).frozen? ⟨b, o, none⟩ = false := by subst hb; simp

set_option maxRecDepth 100000 in
set_option maxHeartbeats 2000000 in
theorem sOv_code (s v q : Int) (p : Option Addr) (n c : Nat) (es : List (Int × Int)) (w : World) (hm : n ≤ 1048576) (hn : es.length = n) (hr : SeesE w p es) (hq : vertsCode s es [v] = q) (hq0 : ¬ q = 0) :
    Calls Try.prog 33 #[.agg #[.int .i64 s, .slice p n c], .int .i64 v] w fun e' w' => e' = .returned (.tuple #[.agg #[.int .i64 0, .slice none 0 0], .int .i64 q]) ∧ Below w.heap.size w w' := by
  have Hn := hid hn
  have Hr := hid hr
  have HQ := hid hq
  have hq' : (q != 0) = true := by simpa using hq0
  clear hn hr hq
  go_enter Try.func33, Try.ntmps33
  go_wp2_with fail
  refine (sVert6_any s p n c (w.heap.size + 1 + 1) 0 1 1 es [v] _ (by omega) Hn.out (Hr.out.on (bfrom (bfrom (on_alloc _ _) (on_alloc _ _)) (on_alloc _ _))) rfl (by omega) (reads_one _ _ _ _ (by simp))).mono ?_
  rw [HQ.out]
  rintro e' w2 ⟨rfl, hb2⟩
  obtain ⟨hc2, hf2⟩ := bcells hb2
  have hz2 := hb2.size
  simp at hz2
  go_wp2
  refine bodyPost_ret (v := .tuple #[.agg #[.int .i64 0, .slice none 0 0], .int .i64 q]) (by simp [results, Try.results33, go_sem, hc2]) rfl ⟨rfl, ?_⟩
  have hbw := bfrom (w := w) (bfrom (bfrom (on_alloc _ _) (on_alloc _ _)) (on_alloc _ _)) hb2
  go_grown

set_option maxRecDepth 100000 in
set_option maxHeartbeats 2000000 in
theorem sOv_big (s v : Int) (p : Option Addr) (n c : Nat) (es : List (Int × Int)) (w : World) (hm : n ≤ 1048576) (hn : es.length = n) (hr : SeesE w p es) (hq : vertsCode s es [v] = 0) (h1 : 18 < s) (h2 : s ≤ 20) :
    Calls Try.prog 33 #[.agg #[.int .i64 s, .slice p n c], .int .i64 v] w fun e' w' => e' = .returned (.tuple #[.agg #[.int .i64 0, .slice none 0 0], .int .i64 3]) ∧ Below w.heap.size w w' := by
  have Hn := hid hn
  have Hr := hid hr
  have HQ := hid hq
  have e1 : IntKind.i64.wrap (s + 2) = s + 2 := IntWalk.i64_in _ (by omega)
  have t2 : decide (20 < s + 2) = true := by simp; omega
  clear hn hr hq
  go_enter Try.func33, Try.ntmps33
  go_wp2_with fail
  refine (sVert6_any s p n c (w.heap.size + 1 + 1) 0 1 1 es [v] _ (by omega) Hn.out (Hr.out.on (bfrom (bfrom (on_alloc _ _) (on_alloc _ _)) (on_alloc _ _))) rfl (by omega) (reads_one _ _ _ _ (by simp))).mono ?_
  rw [HQ.out]
  rintro e' w2 ⟨rfl, hb2⟩
  obtain ⟨hc2, hf2⟩ := bcells hb2
  have hz2 := hb2.size
  simp at hz2
  go_wp2
  refine bodyPost_ret (v := .tuple #[.agg #[.int .i64 0, .slice none 0 0], .int .i64 3]) (by simp [results, Try.results33, go_sem, hc2]) rfl ⟨rfl, ?_⟩
  have hbw := bfrom (w := w) (bfrom (bfrom (on_alloc _ _) (on_alloc _ _)) (on_alloc _ _)) hb2
  go_grown

set_option maxRecDepth 100000 in
set_option maxHeartbeats 8000000 in
theorem sOv_yes (s v : Int) (b off n c : Nat) (es : List (Int × Int)) (w : World) (hn : es.length = n) (hr : ReadsE w b off es) (g : IsG s es) (hv : 0 ≤ v ∧ v < s) (h18 : s ≤ 18) :
    Calls Try.prog 33 #[.agg #[.int .i64 s, .slice (some ⟨b, off, none⟩) n c], .int .i64 v] w fun e' w' => ∃ q cap, e' = .returned (.tuple #[.agg #[.int .i64 (s + 2), .slice q (n + 3) cap], .int .i64 0]) ∧ FreshE w.heap.size w' q (n + 3) cap (sortE (ovM s v es)) ∧ Below w.heap.size w w' := by
  have hn30 : n ≤ 30 := by have := isG_len g; omega
  have hbb : b < w.heap.size := reads_lt hr (by have := g.1.1.1; have := g.1.1.2.2.2; omega)
  have hs2 : 2 ≤ s := g.1.1.1
  have HQ := hid (show vertsCode s es [v] = 0 by rw [verts_one, if_pos g, if_pos hv])
  obtain ⟨x, y, z, hL, hxy, hxz, hyz⟩ := onL_three g hv
  have hyO : yO es v = y := by unfold yO; rw [hL]; rfl
  have hzO : zO es v = z := by unfold zO; rw [hL]; rfl
  have HM := hid (show ovM s v es = ovU s v es y z n ++ newT s v by unfold ovM; rw [hyO, hzO, hn])
  have HAt := hid (show atF es v = [(x : Int), (y : Int), (z : Int)] by rw [onL_at, hL]; rfl)
  have Hyz := hid hyz
  have Hn := hid hn
  have Hr := hid hr
  have G := hid g
  have hv0 := hv.1
  have hv1 := hv.2
  have e1 : IntKind.i64.wrap (s + 2) = s + 2 := IntWalk.i64_in _ (by omega)
  have e2 : IntKind.i64.wrap (s + 1) = s + 1 := IntWalk.i64_in _ (by omega)
  have t2 : decide (20 < s + 2) = false := by simp; omega
  obtain ⟨i0, hi, hz0, hz1, hz2⟩ := info_parts infoEdge
  have Hi := hid hi
  have HX0 : Hid (Box (((w.alloc (.cells #[.int .i64 s, .slice (some ⟨b, off, none⟩) n c] 30)).alloc (.cells #[.int .i64 0, .slice none 0 0] 30)).alloc (.cells #[.int .i64 v] 2)) w.heap.size s (some ⟨b, off, none⟩) n c) := hid (((Box.new w s (some ⟨b, off, none⟩) n c 30).on (on_alloc _ _)).on (on_alloc _ _))
  have HK0 : Hid (Box (((w.alloc (.cells #[.int .i64 s, .slice (some ⟨b, off, none⟩) n c] 30)).alloc (.cells #[.int .i64 0, .slice none 0 0] 30)).alloc (.cells #[.int .i64 v] 2)) (w.heap.size + 1) 0 none 0 0) := hid (by
    have h := (Box.new (w.alloc (.cells #[.int .i64 s, .slice (some ⟨b, off, none⟩) n c] 30)) 0 none 0 0 30).on (on_alloc _ (.cells #[.int .i64 v] 2))
    simp only [World.size_alloc] at h
    exact h)
  have HF0 : Hid (∀ j, (((w.alloc (.cells #[.int .i64 s, .slice (some ⟨b, off, none⟩) n c] 30)).alloc (.cells #[.int .i64 0, .slice none 0 0] 30)).alloc (.cells #[.int .i64 v] 2)).frozen? ⟨w.heap.size + 1, j, none⟩ = false) := hid (fun j => ((bcells (on_alloc _ _)).2 _ _ (by simp)).trans (free_cellO _ _ _ _ _ (by simp)))
  have HB0 := hid (show Below w.heap.size w (((w.alloc (.cells #[.int .i64 s, .slice (some ⟨b, off, none⟩) n c] 30)).alloc (.cells #[.int .i64 0, .slice none 0 0] 30)).alloc (.cells #[.int .i64 v] 2)) from bfrom (bfrom (on_alloc _ _) (on_alloc _ _)) (on_alloc _ _))
  clear hn hr g hi hv hL hyO hzO hxy hxz hyz
  go_enter Try.func33, Try.ntmps33
  go_wp2_with fail
  refine (sVert6_any s (some ⟨b, off, none⟩) n c (w.heap.size + 1 + 1) 0 1 1 es [v] _ (by omega) Hn.out (SeesE.on (.inr ⟨b, off, rfl, Hr.out⟩) HB0.out) rfl (by omega) (reads_one _ _ _ _ (by simp))).mono ?_
  rw [HQ.out]
  rintro e' w3 ⟨rfl, hb3⟩
  have HX3 := hid (HX0.out.on hb3)
  have HK3 := hid (HK0.out.on hb3)
  have HF3 := hid (fun j => ((bcells hb3).2 (w.heap.size + 1) j (by simp)).trans (HF0.out j))
  have HB3 := hid (bfrom HB0.out hb3)
  have hx3 := HX3.out.1
  have hy3 := HX3.out.2
  have hz3 := HX3.out.lt
  have hz3k := HK3.out.lt
  clear hb3 HX0 HK0 HF0
  go_wp2_with fail
  refine (sAt_any s v b off n c es w3 Hn.out hn30 (Hr.out.on HB3.out)).mono ?_
  rw [HAt.out]
  rintro e' w4 ⟨q4, cap4, rfl, hf4, hb4⟩
  obtain ⟨g4, rfl, hg4, ho4⟩ : ∃ g, q4 = some ⟨g, 0, none⟩ ∧ w3.heap.size ≤ g ∧ OwnI w4 g cap4 [(x : Int), (y : Int), (z : Int)] := by
    rcases hf4.form with ⟨_, h, _⟩ | h
    · cases h
    · exact h
  have HX4 := hid (HX3.out.on hb4)
  have HK4 := hid (HK3.out.on hb4)
  have HF4 := hid (fun j => ((bcells hb4).2 (w.heap.size + 1) j hz3k).trans (HF3.out j))
  have HB4 := hid (bfrom HB3.out hb4)
  have HQ4 := hid (show w4.cell? ⟨g4, 1, none⟩ = some (.int .i64 y) ∧ w4.cell? ⟨g4, 2, none⟩ = some (.int .i64 z) from ⟨by have h := ho4.reads 1 (by simp); simpa [eI] using h, by have h := ho4.reads 2 (by simp); simpa [eI] using h⟩)
  have hg4z := ho4.lt
  have hz4 := HX4.out.lt
  have hz4k := HK4.out.lt
  have hw34 := hb4.size
  clear hb4 hf4 ho4 hx3 hy3
  go_wp2
  go_loopw [8, 9] (fun u i wr => ∃ (k cap g : Nat), k ≤ n ∧ u = .slice (some ⟨g, 0, none⟩) k cap ∧ i = .int .i64 k ∧ Hid (wr.ownsRow w4.heap.size 73 2 (.slice (some ⟨g, 0, none⟩) k cap) k (edgeVals (ovU s v es y z k))) ∧ Hid (Below w4.heap.size w4 wr)) (fun _ i _ => n - (intOf i).toNat)
  case atStart => exact ⟨0, 0, w4.heap.size, Nat.zero_le _, rfl, rfl, hid (World.ownsRow_made (base := w4.heap.size) (e := 73) (size := 2) w4 #[] 0 (Nat.le_refl _) (Nat.zero_le _) rfl), hid (on_alloc _ _)⟩
  case round =>
    obtain ⟨k, cap, g, hk, rfl, rfl, hO, hB⟩ := hrel
    have hszr := hB.out.size
    have hxr := ((bcells hB.out).1 _ 0 hz4).trans HX4.out.1
    have hyr := ((bcells hB.out).1 _ 1 hz4).trans HX4.out.2
    have hzr : w.heap.size < wr.heap.size := by omega
    obtain ⟨wo, rfl⟩ : ∃ wo : World, wo = wr := ⟨_, rfl⟩
    by_cases hlt : k < n
    · have hlt' : (k : Int) < (n : Int) := by omega
      have hok := G.out.1.2 k (by have := Hn.out; omega)
      have hs20 := G.out.1.1.2.1
      go_wp2_with fail
      refine (sOther_any s k v b off n c k es wo (by omega) Hn.out (Hr.out.on (bfrom HB4.out hB.out)) rfl hlt ⟨hok.1, by have := hok.2.1; omega⟩ ⟨hok.2.2.1, by have := hok.2.2.2.1; omega⟩ ⟨hv0, by omega⟩).mono ?_
      obtain ⟨O, hOO⟩ : ∃ O, eA es k + eB es k - v = O := ⟨_, rfl⟩
      rw [hOO]
      rintro e' w5 ⟨rfl, hb5⟩
      have HB5 := hid (hB.out.trans (hb5.mono hszr))
      have HO5 := hid (hO.out.kept (grown_belowO hb5) (by cases hq : (Value.slice (some ⟨g, 0, none⟩) k cap).ownBlock with
        | none => exact .inl rfl
        | some g => exact .inr (by simp)))
      have HOth := hid (show othE es v k = O from hOO)
      have hx5 := ((bcells HB5.out).1 _ 0 hz4).trans HX4.out.1
      have hy5 := ((bcells HB5.out).1 _ 1 hz4).trans HX4.out.2
      have hq1 := ((bcells HB5.out).1 _ 1 hg4z).trans HQ4.out.1
      have hq2 := ((bcells HB5.out).1 _ 2 hg4z).trans HQ4.out.2
      have hrd := Hr.out.on (bfrom HB4.out HB5.out) k (by have := Hn.out; omega)
      have hc1 := hrd.1
      have hc2 := hrd.2
      have hsz5 := HB5.out.size
      have hb5l : b < w5.heap.size := by have := HB4.out.size; omega
      have hz5 : w.heap.size < w5.heap.size := by omega
      have hg5z : g4 < w5.heap.size := by omega
      have hrow : ∀ i, (Value.slice (some ⟨g, 0, none⟩) k cap).ownBlock = some i → w4.heap.size ≤ i ∧ i < w5.heap.size := HO5.out.lt
      clear hb5 hok hs20 hxr hyr hOO hrd
      by_cases hky : k = y
      · have t3 : ((k : Int) == (y : Int)) = true := by simp; omega
        have HI := hid (show ovI s v es y z k = (s, O) by unfold ovI; rw [if_pos hky, HOth.out])
        clear hky
        go_wp2_with (at_builtin; go_must (refine wpList_append_lies _ rfl (.tmp 53) (.tmp 58) 28 rfl w4.heap.size 73 i0 (.agg #[.int .i64 0, .int .i64 0]) 2 16 Try.underlying28 Hi.out hz0 hz1 hz2 rfl (by decide) (.slice (some ⟨g, 0, none⟩) k cap) k _ rfl (HO5.out.alloc _) ⟨w5.heap.size, 0, none⟩ 1 1 [.int .i64 s, .int .i64 O] rfl rfl (World.news_of_block (cs := #[.int .i64 s, .int .i64 O]) (t := 73) (fr := (0, 0)) (heap_alloc_new _ _)) (by simp [Value.oneCell']) (by decide) (by unfold maxLen; omega) (by omega) (by simp; omega) (w5.heap.size + 1) (by simp) ?_); intro g8 cap8 w8 hown8 hgrow8 hlie8 hg8; have Hown8 := hid hown8; have HB8 := hid ((HB5.out.alloc HB5.out.size (.cells #[.int .i64 s, .int .i64 O] 73)).grown hgrow8 (by simp; omega) (fun i hi => (hrow i hi).1)); clear hown8 hgrow8 hlie8)
        go_roundw
        case rel => exact ⟨k + 1, cap8, g8, by omega, rfl, by go_num, hid (by rw [ovU_succ, HI.out, edgeVals_append]; exact Hown8.out), HB8⟩
        case measure => simp [intOf]; omega
      · have t3 : ((k : Int) == (y : Int)) = false := by simp; omega
        by_cases hkz : k = z
        · have t4 : ((k : Int) == (z : Int)) = true := by simp; omega
          have HI := hid (show ovI s v es y z k = (s + 1, O) by unfold ovI; rw [if_neg hky, if_pos hkz, HOth.out])
          clear hky hkz
          go_wp2_with (at_builtin; go_must (refine wpList_append_lies _ rfl (.tmp 65) (.tmp 71) 28 rfl w4.heap.size 73 i0 (.agg #[.int .i64 0, .int .i64 0]) 2 16 Try.underlying28 Hi.out hz0 hz1 hz2 rfl (by decide) (.slice (some ⟨g, 0, none⟩) k cap) k _ rfl (HO5.out.alloc _) ⟨w5.heap.size, 0, none⟩ 1 1 [.int .i64 (s + 1), .int .i64 O] rfl rfl (World.news_of_block (cs := #[.int .i64 (s + 1), .int .i64 O]) (t := 73) (fr := (0, 0)) (heap_alloc_new _ _)) (by simp [Value.oneCell']) (by decide) (by unfold maxLen; omega) (by omega) (by simp; omega) (w5.heap.size + 1) (by simp) ?_); intro g8 cap8 w8 hown8 hgrow8 hlie8 hg8; have Hown8 := hid hown8; have HB8 := hid ((HB5.out.alloc HB5.out.size (.cells #[.int .i64 (s + 1), .int .i64 O] 73)).grown hgrow8 (by simp; omega) (fun i hi => (hrow i hi).1)); clear hown8 hgrow8 hlie8)
          go_roundw
          case rel => exact ⟨k + 1, cap8, g8, by omega, rfl, by go_num, hid (by rw [ovU_succ, HI.out, edgeVals_append]; exact Hown8.out), HB8⟩
          case measure => simp [intOf]; omega
        · have t4 : ((k : Int) == (z : Int)) = false := by simp; omega
          have HI := hid (show ovI s v es y z k = (eA es k, eB es k) by unfold ovI; rw [if_neg hky, if_neg hkz])
          clear hky hkz
          go_wp2_with (at_builtin; go_must (refine wpList_append_lies _ rfl (.tmp 40) (.tmp 46) 28 rfl w4.heap.size 73 i0 (.agg #[.int .i64 0, .int .i64 0]) 2 16 Try.underlying28 Hi.out hz0 hz1 hz2 rfl (by decide) (.slice (some ⟨g, 0, none⟩) k cap) k _ rfl (HO5.out.alloc _) ⟨w5.heap.size, 0, none⟩ 1 1 [.int .i64 (eA es k), .int .i64 (eB es k)] rfl rfl (World.news_of_block (cs := #[.int .i64 (eA es k), .int .i64 (eB es k)]) (t := 73) (fr := (0, 0)) (heap_alloc_new _ _)) (by simp [Value.oneCell']) (by decide) (by unfold maxLen; omega) (by omega) (by simp; omega) (w5.heap.size + 1) (by simp) ?_); intro g8 cap8 w8 hown8 hgrow8 hlie8 hg8; have Hown8 := hid hown8; have HB8 := hid ((HB5.out.alloc HB5.out.size (.cells #[.int .i64 (eA es k), .int .i64 (eB es k)] 73)).grown hgrow8 (by simp; omega) (fun i hi => (hrow i hi).1)); clear hown8 hgrow8 hlie8)
          go_roundw
          case rel => exact ⟨k + 1, cap8, g8, by omega, rfl, by go_num, hid (by rw [ovU_succ, HI.out, edgeVals_append]; exact Hown8.out), HB8⟩
          case measure => simp [intOf]; omega
    · have hkn := hid (show k = n by omega)
      have hrow : ∀ i, (Value.slice (some ⟨g, 0, none⟩) k cap).ownBlock = some i → w4.heap.size ≤ i ∧ i < wo.heap.size := hO.out.lt
      have HOU := hid hO.out
      go_wp2_with (at_builtin; go_must (refine wpList_append_lies _ rfl (.tmp 73) (.tmp 89) 28 rfl w4.heap.size 73 i0 (.agg #[.int .i64 0, .int .i64 0]) 2 16 Try.underlying28 Hi.out hz0 hz1 hz2 rfl (by decide) (.slice (some ⟨g, 0, none⟩) k cap) k _ rfl (hO.out.alloc _) ⟨wo.heap.size, 0, none⟩ 3 3 [.int .i64 v, .int .i64 s, .int .i64 v, .int .i64 (s + 1), .int .i64 s, .int .i64 (s + 1)] rfl rfl (World.news_of_block (cs := #[.int .i64 v, .int .i64 s, .int .i64 v, .int .i64 (s + 1), .int .i64 s, .int .i64 (s + 1)]) (t := 73) (fr := (0, 0)) (heap_alloc_new _ _)) (by simp [Value.oneCell']) (by decide) (by unfold maxLen; omega) (by omega) (by simp; omega) (wo.heap.size + 1) (by simp) ?_); intro g8 cap8 w8 hown8 hgrow8 hlie8 hg8; have Hown8 := hid hown8; have HB8 := hid ((hB.out.alloc hszr (.cells #[.int .i64 v, .int .i64 s, .int .i64 v, .int .i64 (s + 1), .int .i64 s, .int .i64 (s + 1)] 73)).grown hgrow8 (by simp; omega) (fun i hi => (hrow i hi).1)); have HX8 := hid (HX4.out.on HB8.out); have hx8 := HX8.out.1; have hz8 := HX8.out.lt; clear hown8 hgrow8 hlie8)
      have HOE := hid (show OwnE w8 g8 cap8 (ovM s v es) by
        rw [HM.out, ← hkn.out]
        exact (OwnE.of_row (n := k + 3) (by rw [edgeVals_append]; exact Hown8.out) (by rw [List.length_append, ovU_len]; rfl)).1)
      have HLm := hid (ovM_len s v es)
      obtain ⟨K3, hK3⟩ : ∃ K3, k + 3 = K3 := ⟨_, rfl⟩
      rw [hK3]
      have HK3n := hid (show K3 = n + 3 by rw [← hK3, hkn.out])
      clear hK3
      go_wp2_with fail
      refine (sMade_any (s + 2) g8 0 K3 cap8 (ovM s v es) w8 (by have := HK3n.out; omega) (by rw [HLm.out, HK3n.out, Hn.out]) HOE.out.reads).mono ?_
      rw [HK3n.out]
      rintro e' w6 ⟨q6, cap6, rfl, hf6, hb6⟩
      have HF6 := hid hf6
      have HK8 := HK4.out.on HB8.out
      have HKx := HK8.on hb6
      have hra := HKx.1
      have hrb := HKx.2
      have hfa6 := ((bcells hb6).2 _ 0 HK8.lt).trans (((bcells HB8.out).2 _ 0 hz4k).trans (HF4.out 0))
      have hfb6 := ((bcells hb6).2 _ 1 HK8.lt).trans (((bcells HB8.out).2 _ 1 hz4k).trans (HF4.out 1))
      have hz6 := HKx.lt
      have hw8 := HB8.out.size
      have HBw := hid (bfrom (bfrom HB4.out HB8.out) hb6)
      clear hf6 HKx HK8 hx8
      go_wp2
      refine bodyPost_ret (v := .tuple #[.agg #[.int .i64 (s + 2), .slice q6 (n + 3) cap6], .int .i64 0]) (by simp [results, Try.results33, go_sem, hra, hrb]) rfl ⟨q6, cap6, rfl, ?_, ?_⟩
      · exact ((HF6.out.far (by show w.heap.size + 1 < _; omega) _).far (by show w.heap.size + 1 < _; omega) _).less (by omega)
      · exact (HBw.out.setCell (p := ⟨w.heap.size + 1, 0, none⟩) (by show w.heap.size ≤ w.heap.size + 1; omega) _).setCell (p := ⟨w.heap.size + 1, 1, none⟩) (by show w.heap.size ≤ w.heap.size + 1; omega) _

end Go.Proofs.Ytppkcpekknhbmaa
