/- BridgeEdges in the model. -/
import Derived.Test.YtppkcpekknhbmaaBrgA
import Derived.Test.YtppkcpekknhbmaaBrgS
import Derived.Test.YtppkcpekknhbmaaSpecF
import Derived.Test.YtppkcpekknhbmaaLawsF

import Derived.Deep.AppendLies
import Derived.Deep.DeepMust
import Derived.BigRegion
namespace Go.Proofs.Ytppkcpekknhbmaa
open Go.RowKit Go.Lib

theorem reads_two (w : World) (x y : Int) (t : TypeId) (g : Nat) (hg : g = w.heap.size) : ReadsI (w.alloc (.cells #[.int .i64 x, .int .i64 y] t)) g 0 [x, y] := fun i hi => by
  subst hg
  rcases (by simp at hi; omega : i = 0 ∨ i = 1) with rfl | rfl <;> simp [eI]
theorem edgs_two (s : Int) (es : List (Int × Int)) (e f : Int) : edgsCode s es [e, f] = if IsG s es then (if 0 ≤ e ∧ e < es.length ∧ 0 ≤ f ∧ f < es.length then 0 else 2) else 1 := by
  unfold edgsCode
  by_cases h : IsG s es
  · rw [if_pos h, if_pos h]
    by_cases h2 : 0 ≤ e ∧ e < es.length ∧ 0 ≤ f ∧ f < es.length
    · rw [if_pos h2, if_pos (fun i hi => by
        rcases (by simp at hi; omega : i = 0 ∨ i = 1) with rfl | rfl
        · exact ⟨h2.1, h2.2.1⟩
        · exact ⟨h2.2.2.1, h2.2.2.2⟩)]
    · rw [if_neg h2, if_neg (fun h3 => h2 (by
        have h4 := h3 0 (by simp)
        have h5 := h3 1 (by simp)
        exact ⟨h4.1, h4.2, h5.1, h5.2⟩))]
  · rw [if_neg h, if_neg h]
theorem free_cell (w : World) (c : Array Value) (t : TypeId) (o b : Nat) (hb : b = w.heap.size) : (w.alloc (.cells c t)).frozen? ⟨b, o, none⟩ = false := by subst hb; simp

set_option maxRecDepth 100000 in
set_option maxHeartbeats 2000000 in
theorem sBrg_code (s e f q : Int) (p : Option Addr) (n c : Nat) (es : List (Int × Int)) (w : World) (hm : n ≤ 1048576) (hn : es.length = n) (hr : SeesE w p es) (hq : edgsCode s es [e, f] = q) (hq0 : ¬ q = 0) :
    Calls Try.prog 35 #[.agg #[.int .i64 s, .slice p n c], .int .i64 e, .int .i64 f] w fun e' w' => e' = .returned (.tuple #[.agg #[.int .i64 0, .slice none 0 0], .int .i64 q]) ∧ Below w.heap.size w w' := by
  have Hn := hid hn
  have Hr := hid hr
  have HQ := hid hq
  have hq' : (q != 0) = true := by simpa using hq0
  clear hn hr hq
  go_enter Try.func35, Try.ntmps35
  go_wp2_with fail
  refine (sEdg_any s p n c (w.heap.size + 1 + 1) 0 2 2 es [e, f] _ hm Hn.out (Hr.out.on (bfrom (bfrom (on_alloc _ _) (on_alloc _ _)) (on_alloc _ _))) rfl (by omega) (reads_two _ _ _ _ _ (by simp))).mono ?_
  rw [HQ.out]
  rintro e' w2 ⟨rfl, hb2⟩
  obtain ⟨hc2, hf2⟩ := bcells hb2
  have hz2 := hb2.size
  simp at hz2
  go_wp2
  refine bodyPost_ret (v := .tuple #[.agg #[.int .i64 0, .slice none 0 0], .int .i64 q]) (by simp [results, Try.results35, go_sem, hc2]) rfl ⟨rfl, ?_⟩
  have hbw := bfrom (w := w) (bfrom (bfrom (on_alloc _ _) (on_alloc _ _)) (on_alloc _ _)) hb2
  go_grown

set_option maxRecDepth 100000 in
set_option maxHeartbeats 2000000 in
theorem sBrg_same (s e : Int) (p : Option Addr) (n c : Nat) (es : List (Int × Int)) (w : World) (hm : n ≤ 1048576) (hn : es.length = n) (hr : SeesE w p es) (hq : edgsCode s es [e, e] = 0) :
    Calls Try.prog 35 #[.agg #[.int .i64 s, .slice p n c], .int .i64 e, .int .i64 e] w fun e' w' => e' = .returned (.tuple #[.agg #[.int .i64 0, .slice none 0 0], .int .i64 5]) ∧ Below w.heap.size w w' := by
  have Hn := hid hn
  have Hr := hid hr
  have HQ := hid hq
  clear hn hr hq
  go_enter Try.func35, Try.ntmps35
  go_wp2_with fail
  refine (sEdg_any s p n c (w.heap.size + 1 + 1) 0 2 2 es [e, e] _ hm Hn.out (Hr.out.on (bfrom (bfrom (on_alloc _ _) (on_alloc _ _)) (on_alloc _ _))) rfl (by omega) (reads_two _ _ _ _ _ (by simp))).mono ?_
  rw [HQ.out]
  rintro e' w2 ⟨rfl, hb2⟩
  obtain ⟨hc2, hf2⟩ := bcells hb2
  have hz2 := hb2.size
  simp at hz2
  go_wp2
  refine bodyPost_ret (v := .tuple #[.agg #[.int .i64 0, .slice none 0 0], .int .i64 5]) (by simp [results, Try.results35, go_sem, hc2]) rfl ⟨rfl, ?_⟩
  have hbw := bfrom (w := w) (bfrom (bfrom (on_alloc _ _) (on_alloc _ _)) (on_alloc _ _)) hb2
  go_grown

set_option maxRecDepth 100000 in
set_option maxHeartbeats 2000000 in
theorem sBrg_big (s e f : Int) (p : Option Addr) (n c : Nat) (es : List (Int × Int)) (w : World) (hm : n ≤ 1048576) (hn : es.length = n) (hr : SeesE w p es) (hq : edgsCode s es [e, f] = 0) (hef : ¬ e = f) (h1 : 18 < s) (h2 : s ≤ 20) :
    Calls Try.prog 35 #[.agg #[.int .i64 s, .slice p n c], .int .i64 e, .int .i64 f] w fun e' w' => e' = .returned (.tuple #[.agg #[.int .i64 0, .slice none 0 0], .int .i64 3]) ∧ Below w.heap.size w w' := by
  have Hn := hid hn
  have Hr := hid hr
  have HQ := hid hq
  have t1 : (e == f) = false := by simpa using hef
  have e1 : IntKind.i64.wrap (s + 2) = s + 2 := IntWalk.i64_in _ (by omega)
  have t2 : decide (20 < s + 2) = true := by simp; omega
  clear hn hr hq
  go_enter Try.func35, Try.ntmps35
  go_wp2_with fail
  refine (sEdg_any s p n c (w.heap.size + 1 + 1) 0 2 2 es [e, f] _ hm Hn.out (Hr.out.on (bfrom (bfrom (on_alloc _ _) (on_alloc _ _)) (on_alloc _ _))) rfl (by omega) (reads_two _ _ _ _ _ (by simp))).mono ?_
  rw [HQ.out]
  rintro e' w2 ⟨rfl, hb2⟩
  obtain ⟨hc2, hf2⟩ := bcells hb2
  have hz2 := hb2.size
  simp at hz2
  go_wp2
  refine bodyPost_ret (v := .tuple #[.agg #[.int .i64 0, .slice none 0 0], .int .i64 3]) (by simp [results, Try.results35, go_sem, hc2]) rfl ⟨rfl, ?_⟩
  have hbw := bfrom (w := w) (bfrom (bfrom (on_alloc _ _) (on_alloc _ _)) (on_alloc _ _)) hb2
  go_grown

theorem new_second (w : World) (o : Obj) (o2 : Obj) : ((w.alloc o).alloc o2).heap[w.heap.size + 1]? = some o2 := by
  have h := heap_alloc_new (w.alloc o) o2
  rwa [World.size_alloc] at h

set_option maxRecDepth 100000 in
set_option maxHeartbeats 8000000 in
theorem sBrg_yes (s : Int) (b off n c E F : Nat) (es : List (Int × Int)) (w : World) (hn : es.length = n) (hr : ReadsE w b off es) (g : IsG s es) (hE : E < n) (hF : F < n) (hEF : E ≠ F) (h18 : s ≤ 18) :
    Calls Try.prog 35 #[.agg #[.int .i64 s, .slice (some ⟨b, off, none⟩) n c], .int .i64 E, .int .i64 F] w fun e' w' => ∃ q cap, e' = .returned (.tuple #[.agg #[.int .i64 (s + 2), .slice q (n + 3) cap], .int .i64 0]) ∧ FreshE w.heap.size w' q (n + 3) cap (sortE (brU s es E F n)) ∧ Below w.heap.size w w' := by
  have hn30 : n ≤ 30 := by have := isG_len g; omega
  have hbb : b < w.heap.size := reads_lt hr (by have := g.1.1.1; have := g.1.1.2.2.2; omega)
  have hs2 : 2 ≤ s := g.1.1.1
  have HQ := hid (show edgsCode s es [(E : Int), (F : Int)] = 0 by rw [edgs_two, if_pos g, if_pos ⟨by omega, by omega, by omega, by omega⟩])
  have Hn := hid hn
  have Hr := hid hr
  have G := hid g
  have e1 : IntKind.i64.wrap (s + 2) = s + 2 := IntWalk.i64_in _ (by omega)
  have e2 : IntKind.i64.wrap (s + 1) = s + 1 := IntWalk.i64_in _ (by omega)
  have t1 : ((E : Int) == (F : Int)) = false := by simp; omega
  have t2 : decide (20 < s + 2) = false := by simp; omega
  have HLen := hid (show ∀ k, k ≤ n → (brU s es E F k).length ≤ 33 from fun k hk => by rw [brU_len]; (repeat' split) <;> omega)
  have HLn := hid (show (brU s es E F n).length = n + 3 by rw [brU_len, if_pos hE, if_pos ⟨hF, Ne.symm hEF⟩]; omega)
  obtain ⟨i0, hi, hz0, hz1, hz2⟩ := info_parts infoEdge
  have Hi := hid hi
  have HX0 : Hid (Box (((w.alloc (.cells #[.int .i64 s, .slice (some ⟨b, off, none⟩) n c] 30)).alloc (.cells #[.int .i64 0, .slice none 0 0] 30)).alloc (.cells #[.int .i64 E, .int .i64 F] 2)) w.heap.size s (some ⟨b, off, none⟩) n c) := hid (((Box.new w s (some ⟨b, off, none⟩) n c 30).on (on_alloc _ _)).on (on_alloc _ _))
  have HK0 : Hid (Box (((w.alloc (.cells #[.int .i64 s, .slice (some ⟨b, off, none⟩) n c] 30)).alloc (.cells #[.int .i64 0, .slice none 0 0] 30)).alloc (.cells #[.int .i64 E, .int .i64 F] 2)) (w.heap.size + 1) 0 none 0 0) := hid (by
    have h := (Box.new (w.alloc (.cells #[.int .i64 s, .slice (some ⟨b, off, none⟩) n c] 30)) 0 none 0 0 30).on (on_alloc _ (.cells #[.int .i64 E, .int .i64 F] 2))
    simp only [World.size_alloc] at h
    exact h)
  have HF0 : Hid (∀ j, (((w.alloc (.cells #[.int .i64 s, .slice (some ⟨b, off, none⟩) n c] 30)).alloc (.cells #[.int .i64 0, .slice none 0 0] 30)).alloc (.cells #[.int .i64 E, .int .i64 F] 2)).frozen? ⟨w.heap.size + 1, j, none⟩ = false) := hid (fun j => ((bcells (on_alloc _ _)).2 _ _ (by simp)).trans (free_cell _ _ _ _ _ (by simp)))
  have HB0 := hid (show Below w.heap.size w (((w.alloc (.cells #[.int .i64 s, .slice (some ⟨b, off, none⟩) n c] 30)).alloc (.cells #[.int .i64 0, .slice none 0 0] 30)).alloc (.cells #[.int .i64 E, .int .i64 F] 2)) from bfrom (bfrom (on_alloc _ _) (on_alloc _ _)) (on_alloc _ _))
  clear hn hr g hi
  go_enter Try.func35, Try.ntmps35
  go_wp2_with fail
  refine (sEdg_any s (some ⟨b, off, none⟩) n c (w.heap.size + 1 + 1) 0 2 2 es [(E : Int), (F : Int)] _ (by omega) Hn.out (SeesE.on (.inr ⟨b, off, rfl, Hr.out⟩) HB0.out) rfl (by omega) (reads_two _ _ _ _ _ (by simp))).mono ?_
  rw [HQ.out]
  rintro e' w3 ⟨rfl, hb3⟩
  have HX3 := hid (HX0.out.on hb3)
  have HK3 := hid (HK0.out.on hb3)
  have HF3 := hid (fun j => ((bcells hb3).2 (w.heap.size + 1) j (by simp)).trans (HF0.out j))
  have HB3 := hid (bfrom HB0.out hb3)
  have hx3 := HX3.out.1
  have hy3 := HX3.out.2
  have hz3 := HX3.out.lt
  have hz3k := HK3.out.lt
  clear hb3 HX0 HK0 HF0
  go_wp2
  go_loopw [9, 10] (fun v i wr => ∃ (k L cap : Nat) (q : Option Addr), k ≤ n ∧ v = .slice q L cap ∧ i = .int .i64 k ∧ Hid (wr.ownsRow w3.heap.size 73 2 (.slice q L cap) L (edgeVals (brU s es E F k)) ∧ (brU s es E F k).length = L) ∧ Hid (Below w3.heap.size w3 wr)) (fun _ i _ => n - (intOf i).toNat)
  case atStart =>
    refine ⟨0, 1, 1, some ⟨w3.heap.size, 0, none⟩, Nat.zero_le _, rfl, rfl, hid ⟨?_, rfl⟩, hid (on_alloc _ _)⟩
    exact ⟨rfl, .inr ⟨w3.heap.size, 1, _, rfl, Nat.le_refl _, heap_alloc_new w3 _, Nat.le_refl _, by unfold maxLen; omega, rfl, rfl⟩⟩
  case round =>
    obtain ⟨k, L, cap, q, hk, rfl, rfl, hO', hB⟩ := hrel
    have hO := hid hO'.out.1
    have hL := hid hO'.out.2
    have hL33 : L ≤ 33 := by rw [← hL.out]; exact HLen.out k hk
    have hszr := hB.out.size
    have hxr := ((bcells hB.out).1 _ _ hz3).trans hx3
    have hyr := ((bcells hB.out).1 _ _ hz3).trans hy3
    have hzr : w.heap.size < wr.heap.size := by omega
    by_cases hlt : k < n
    · have hlt' : (k : Int) < (n : Int) := by omega
      have hrd := Hr.out.on (bfrom HB3.out hB.out) k (by have := Hn.out; omega)
      have hc1 := hrd.1
      have hc2 := hrd.2
      have hbr : b < wr.heap.size := by have := HB3.out.size; omega
      have hrow : ∀ j, (Value.slice q L cap).ownBlock = some j → w3.heap.size ≤ j ∧ j < wr.heap.size := hO.out.lt
      clear hO' hrd hx3 hy3
      obtain ⟨wo, rfl⟩ : ∃ wo : World, wo = wr := ⟨_, rfl⟩
      by_cases hkE : k = E
      · have t3 : ((k : Int) == (E : Int)) = true := by simp; omega
        have HBI := hid (show brI s es E F k = [(eA es k, s), (eB es k, s)] by unfold brI; rw [if_pos hkE])
        clear hkE
        go_wp2_with (at_builtin; go_must (refine wpList_append_lies _ rfl (.tmp 57) (.tmp 68) 28 rfl w3.heap.size 73 i0 (.agg #[.int .i64 0, .int .i64 0]) 2 16 Try.underlying28 Hi.out hz0 hz1 hz2 rfl (by decide) (.slice q L cap) L _ rfl ((hO.out.alloc _).alloc _) ⟨wo.heap.size + 1, 0, none⟩ 2 2 [.int .i64 (eA es k), .int .i64 s, .int .i64 (eB es k), .int .i64 s] rfl rfl (World.news_of_block (cs := #[.int .i64 (eA es k), .int .i64 s, .int .i64 (eB es k), .int .i64 s]) (t := 73) (fr := (0, 0)) (new_second wo _ _)) (by simp [Value.oneCell']) (by decide) (by unfold maxLen; omega) (by omega) (by simp; omega) (wo.heap.size + 1 + 1) (by simp) ?_); intro g8 cap8 w8 hown8 hgrow8 hlie8 hg8; have Hown8 := hid hown8; have HB8 := hid (((hB.out.alloc hB.out.size (.cells #[.int .i64 (eA es k), .int .i64 (eB es k)] 73)).alloc (by have := hB.out.size; simp; omega) (.cells #[.int .i64 (eA es k), .int .i64 s, .int .i64 (eB es k), .int .i64 s] 73)).grown hgrow8 (by have := hB.out.size; simp; omega) (fun j hj => (hrow j hj).1)); clear hown8 hgrow8 hlie8)
        go_roundw
        case rel => exact ⟨k + 1, L + 2, cap8, some ⟨g8, 0, none⟩, by omega, rfl, by go_num, hid ⟨by rw [brU_succ, HBI.out, edgeVals_append]; exact Hown8.out, by rw [brU_succ, HBI.out, List.length_append, hL.out]; rfl⟩, HB8⟩
        case measure => simp [intOf]; omega
      · have t3 : ((k : Int) == (E : Int)) = false := by simp; omega
        by_cases hkF : k = F
        · have t4 : ((k : Int) == (F : Int)) = true := by simp; omega
          have HBI := hid (show brI s es E F k = [(eA es k, s + 1), (eB es k, s + 1)] by unfold brI; rw [if_neg hkE, if_pos hkF])
          clear hkE hkF
          go_wp2_with (at_builtin; go_must (refine wpList_append_lies _ rfl (.tmp 73) (.tmp 86) 28 rfl w3.heap.size 73 i0 (.agg #[.int .i64 0, .int .i64 0]) 2 16 Try.underlying28 Hi.out hz0 hz1 hz2 rfl (by decide) (.slice q L cap) L _ rfl ((hO.out.alloc _).alloc _) ⟨wo.heap.size + 1, 0, none⟩ 2 2 [.int .i64 (eA es k), .int .i64 (s + 1), .int .i64 (eB es k), .int .i64 (s + 1)] rfl rfl (World.news_of_block (cs := #[.int .i64 (eA es k), .int .i64 (s + 1), .int .i64 (eB es k), .int .i64 (s + 1)]) (t := 73) (fr := (0, 0)) (new_second wo _ _)) (by simp [Value.oneCell']) (by decide) (by unfold maxLen; omega) (by omega) (by simp; omega) (wo.heap.size + 1 + 1) (by simp) ?_); intro g8 cap8 w8 hown8 hgrow8 hlie8 hg8; have Hown8 := hid hown8; have HB8 := hid (((hB.out.alloc hB.out.size (.cells #[.int .i64 (eA es k), .int .i64 (eB es k)] 73)).alloc (by have := hB.out.size; simp; omega) (.cells #[.int .i64 (eA es k), .int .i64 (s + 1), .int .i64 (eB es k), .int .i64 (s + 1)] 73)).grown hgrow8 (by have := hB.out.size; simp; omega) (fun j hj => (hrow j hj).1)); clear hown8 hgrow8 hlie8)
          go_roundw
          case rel => exact ⟨k + 1, L + 2, cap8, some ⟨g8, 0, none⟩, by omega, rfl, by go_num, hid ⟨by rw [brU_succ, HBI.out, edgeVals_append]; exact Hown8.out, by rw [brU_succ, HBI.out, List.length_append, hL.out]; rfl⟩, HB8⟩
          case measure => simp [intOf]; omega
        · have t4 : ((k : Int) == (F : Int)) = false := by simp; omega
          have HBI := hid (show brI s es E F k = [(eA es k, eB es k)] by unfold brI; rw [if_neg hkE, if_neg hkF])
          clear hkE hkF
          go_wp2_with (at_builtin; go_must (refine wpList_append_lies _ rfl (.tmp 50) (.tmp 52) 28 rfl w3.heap.size 73 i0 (.agg #[.int .i64 0, .int .i64 0]) 2 16 Try.underlying28 Hi.out hz0 hz1 hz2 rfl (by decide) (.slice q L cap) L _ rfl ((hO.out.alloc _).alloc _) ⟨wo.heap.size + 1, 0, none⟩ 1 1 [.int .i64 (eA es k), .int .i64 (eB es k)] rfl rfl (World.news_of_block (cs := #[.int .i64 (eA es k), .int .i64 (eB es k)]) (t := 73) (fr := (0, 0)) (new_second wo _ _)) (by simp [Value.oneCell']) (by decide) (by unfold maxLen; omega) (by omega) (by simp; omega) (wo.heap.size + 1 + 1) (by simp) ?_); intro g8 cap8 w8 hown8 hgrow8 hlie8 hg8; have Hown8 := hid hown8; have HB8 := hid (((hB.out.alloc hB.out.size (.cells #[.int .i64 (eA es k), .int .i64 (eB es k)] 73)).alloc (by have := hB.out.size; simp; omega) (.cells #[.int .i64 (eA es k), .int .i64 (eB es k)] 73)).grown hgrow8 (by have := hB.out.size; simp; omega) (fun j hj => (hrow j hj).1)); clear hown8 hgrow8 hlie8)
          go_roundw
          case rel => exact ⟨k + 1, L + 1, cap8, some ⟨g8, 0, none⟩, by omega, rfl, by go_num, hid ⟨by rw [brU_succ, HBI.out, edgeVals_append]; exact Hown8.out, by rw [brU_succ, HBI.out, List.length_append, hL.out]; rfl⟩, HB8⟩
          case measure => simp [intOf]; omega
    · obtain ⟨gq, rfl⟩ : ∃ g, q = some ⟨g, 0, none⟩ := by
        rcases hO.out.2 with ⟨_, h0⟩ | ⟨g, cap', cur, hv, _⟩
        · have := hL.out; rw [brU_len] at this; omega
        · injection hv with h1
          exact ⟨g, h1⟩
      have hkn := hid (show k = n by omega)
      have HOE := hid (show OwnE wr gq cap (brU s es E F n) by have h := (OwnE.of_row hO.out hL.out).1; rwa [hkn.out] at h)
      have HLL := hid (show L = n + 3 by rw [← HLn.out, ← hkn.out]; exact hL.out.symm)
      have HKr := hid (HK3.out.on hB.out)
      have HFr := hid (fun j => ((bcells hB.out).2 (w.heap.size + 1) j hz3k).trans (HF3.out j))
      have hzk := HKr.out.lt
      clear hO'
      go_wp2_with fail
      refine (sMade_any (s + 2) gq 0 L cap (brU s es E F n) wr (by omega) (by rw [HLL.out, HLn.out]) HOE.out.reads).mono ?_
      rw [HLL.out]
      rintro e' w6 ⟨q6, cap6, rfl, hf6, hb6⟩
      have HF6 := hid hf6
      have HKx := HKr.out.on hb6
      have hra := HKx.1
      have hrb := HKx.2
      have hfa6 := ((bcells hb6).2 _ _ hzk).trans (HFr.out 0)
      have hfb6 := ((bcells hb6).2 _ _ hzk).trans (HFr.out 1)
      have hz6 := HKx.lt
      have HBw := hid (bfrom (bfrom HB3.out hB.out) hb6)
      clear hf6 HKx
      go_wp2
      refine bodyPost_ret (v := .tuple #[.agg #[.int .i64 (s + 2), .slice q6 (n + 3) cap6], .int .i64 0]) (by simp [results, Try.results35, go_sem, hra, hrb]) rfl ⟨q6, cap6, rfl, ?_, ?_⟩
      · exact ((HF6.out.far (by show w.heap.size + 1 < _; omega) _).far (by show w.heap.size + 1 < _; omega) _).less (by have := HB3.out.size; omega)
      · exact (HBw.out.setCell (p := ⟨w.heap.size + 1, 0, none⟩) (by show w.heap.size ≤ w.heap.size + 1; omega) _).setCell (p := ⟨w.heap.size + 1, 1, none⟩) (by show w.heap.size ≤ w.heap.size + 1; omega) _

end Go.Proofs.Ytppkcpekknhbmaa
