/- BridgeEdges in the program. -/
import Derived.Test.YtppkcpekknhbmaaBrgI
import Derived.Test.YtppkcpekknhbmaaBrgM
import Derived.Test.YtppkcpekknhbmaaColS
namespace Go.Proofs.Ytppkcpekknhbmaa
open Go.RowKit Go.Lib

/-- The edges while the program puts the new ones in. -/
def brL (s : Int) (es : List (Int × Int)) (e f k : Nat) : List (Int × Int) := (restE es [(e : Int), (f : Int)] ++ [(s, s + 1)]) ++ (List.range k).flatMap fun i => [(endF es e i, s), (endF es f i, s + 1)]
theorem brL_zero (s : Int) (es : List (Int × Int)) (e f : Nat) : brL s es e f 0 = restE es [(e : Int), (f : Int)] ++ [(s, s + 1)] := by simp [brL]
theorem brL_succ (s : Int) (es : List (Int × Int)) (e f k : Nat) : brL s es e f (k + 1) = brL s es e f k ++ [(endF es e k, s), (endF es f k, s + 1)] := by
  unfold brL
  rw [List.range_succ, List.flatMap_append, List.append_assoc]
  simp
theorem brL_two (s : Int) (es : List (Int × Int)) (e f : Nat) : brL s es e f 2 = restE es [(e : Int), (f : Int)] ++ brN s es e f := by
  rw [brL_succ, brL_succ, brL_zero]
  simp [endF, brN]
theorem brL_len {s : Int} {es : List (Int × Int)} {e f : Nat} (he : e < es.length) (hf : f < es.length) (hef : e ≠ f) (k : Nat) : (brL s es e f k).length = es.length - 1 + 2 * k := by
  have h := (br_same (s := s) he hf hef).length_eq
  rw [brU_len, if_pos he, if_pos ⟨hf, Ne.symm hef⟩, List.length_append] at h
  have h2 : (brN s es e f).length = 5 := rfl
  induction k with
  | zero => rw [brL_zero, List.length_append]; simp; omega
  | succ k ih => rw [brL_succ, List.length_append, ih]; simp; omega
theorem below_two {n : Nat} {E F : Nat} (hE : E < n) (hF : F < n) : ∀ i, i < 2 → 0 ≤ eI [(E : Int), (F : Int)] i ∧ eI [(E : Int), (F : Int)] i < (n : Int) := fun i hi => by
  rcases (by omega : i = 0 ∨ i = 1) with rfl | rfl
  · exact ⟨by simp [eI], by simp [eI]; omega⟩
  · exact ⟨by simp [eI], by simp [eI]; omega⟩

set_option maxRecDepth 100000 in
set_option maxHeartbeats 8000000 in
theorem iBrg_yes (N b off n c E F : Nat) (es : List (Int × Int)) (w : World) (hn : es.length = n) (hr : ReadsE w b off es) (g : IsG N es) (hE : E < n) (hF : F < n) (hEF : E ≠ F) (h18 : N ≤ 18) :
    Calls Try.prog 36 #[.agg #[.int .i64 N, .slice (some ⟨b, off, none⟩) n c], .int .i64 E, .int .i64 F] w fun e' w' => ∃ q cap, e' = .returned (.tuple #[.agg #[.int .i64 (N + 2), .slice q (n + 3) cap], .int .i64 0]) ∧ FreshE w.heap.size w' q (n + 3) cap (sortE (brU N es E F n)) ∧ Below w.heap.size w w' := by
  have hn30 : n ≤ 30 := by have := isG_len g; omega
  have hn3 : 3 ≤ n := by have := g.1.1.1; have := g.1.1.2.2.2; omega
  have hbb : b < w.heap.size := reads_lt hr (by omega)
  have Hn := hid hn
  have Hr := hid hr
  have G := hid g
  have e1 : IntKind.i64.wrap ((N : Int) + 2) = N + 2 := IntWalk.i64_in _ (by omega)
  have e2 : IntKind.i64.wrap ((N : Int) + 1) = N + 1 := IntWalk.i64_in _ (by omega)
  have t1 : ((E : Int) == (F : Int)) = false := by simp; omega
  have t2 : decide (20 < (N : Int) + 2) = false := by simp; omega
  have HS := hid (show sortE (brU N es E F n) = sortE (brL N es E F 2) by rw [brL_two, ← hn]; exact sortE_same (br_same (by omega) (by omega) hEF))
  have HLen := hid (show ∀ k, (brL N es E F k).length = n - 1 + 2 * k from fun k => by rw [brL_len (by omega) (by omega) hEF, hn])
  have HBel := hid (decide_eq_true (below_two hE hF))
  have HRl := hid (show (restE es [(E : Int), (F : Int)]).length = n - 2 by
    have h := brL_len (s := N) (e := E) (f := F) (show E < es.length by omega) (show F < es.length by omega) hEF 0
    rw [brL_zero, List.length_append] at h
    simp at h
    omega)
  rw [HS.out]
  obtain ⟨i0, hi, hz0, hz1, hz2⟩ := info_parts infoEdge
  have Hi := hid hi
  have HX0 := hid ((Box.new w N (some ⟨b, off, none⟩) n c 30).on (on_alloc _ (.cells #[.int .i64 0, .slice none 0 0] 30)))
  have HK0 : Hid (GBox ((w.alloc (.cells #[.int .i64 N, .slice (some ⟨b, off, none⟩) n c] 30)).alloc (.cells #[.int .i64 0, .slice none 0 0] 30)) (w.heap.size + 1) 0 none 0 0) := hid (GBox.new _ _ (by simp))
  have HB0 := hid (bfrom (on_alloc w (.cells #[.int .i64 N, .slice (some ⟨b, off, none⟩) n c] 30)) (on_alloc _ (.cells #[.int .i64 0, .slice none 0 0] 30)))
  clear hn hr g hi
  go_enter Try.func36, Try.ntmps36
  go_wp2_with fail
  refine (iIsGraph_any _ _ _ _ es _ (by omega) Hn.out (SeesE.on (.inr ⟨b, off, rfl, Hr.out⟩) HB0.out)).mono ?_
  rw [decide_eq_true G.out]
  rintro e w2 ⟨rfl, hb2⟩
  have HX2 := hid (HX0.out.on hb2)
  have HK2 := hid (HK0.out.on hb2)
  have HB2 := hid (bfrom HB0.out hb2)
  have hx2 := HX2.out.1
  have hy2 := HX2.out.2
  have hz2' := HX2.out.lt
  have hzk2 := HK2.out.lt
  clear hb2 HX0 HK0
  go_wp2_with fail
  refine (iAreBelow_any n w2.heap.size 0 2 2 [(E : Int), (F : Int)] _ rfl (by omega) (reads_two _ _ _ _ _ rfl)).mono ?_
  rw [HBel.out]
  rintro e w' ⟨rfl, rfl⟩
  obtain ⟨w3, hw3⟩ : ∃ w3, w3 = w2.alloc (.cells #[.int .i64 E, .int .i64 F] 2) := ⟨_, rfl⟩
  rw [← hw3]
  have HB3 := hid (show Below w2.heap.size w2 w3 by rw [hw3]; exact on_alloc _ _)
  have HX3 := hid (HX2.out.on HB3.out)
  have HK3 := hid (HK2.out.on HB3.out)
  have hx3 := HX3.out.1
  have hy3 := HX3.out.2
  have hz3' := HX3.out.lt
  clear hw3 hx2 hy2
  go_wp2_with fail
  refine (iLeftO_any N b off n c 2 2 (some ⟨w3.heap.size, 0, none⟩) es [(E : Int), (F : Int)] _ Hn.out hn30 (Hr.out.on (bfrom (bfrom HB2.out HB3.out) (on_alloc _ _))) rfl (by omega) (.inr ⟨w3.heap.size, 0, rfl, reads_two _ _ _ _ _ rfl⟩)).mono ?_
  rw [HRl.out]
  rintro e w4 ⟨g4, cap4, rfl, hg4, ho4, hb4⟩
  have HB4 := hid (show Below w3.heap.size w3 w4 from bfrom (on_alloc _ _) hb4)
  have HO4 := hid ho4
  have HX4 := hid (HX3.out.on HB4.out)
  have hx4 := HX4.out.1
  have hy4 := HX4.out.2
  have hz4' := HX4.out.lt
  have hg4' : w3.heap.size ≤ g4 := by simp at hg4; omega
  have hz34 := HB4.out.size
  have HRow4 := hid ((HO4.out.alloc (.cells #[.int .i64 N, .int .i64 ((N : Int) + 1)] 73)).row (n := n - 2) (base := w3.heap.size) HRl.out hg4')
  have hrow4 : ∀ j, (Value.slice (some ⟨g4, 0, none⟩) (n - 2) cap4).ownBlock = some j → w3.heap.size ≤ j := fun j hj => by have e : g4 = j := Option.some.inj hj; omega
  have hfd : ∀ w' : World, (Instr.field 30 (.agg #[.int .i64 N, .slice (some ⟨g4, 0, none⟩) (n - 2) cap4]) 1).run Try.prog w' = .ok (.slice (some ⟨g4, 0, none⟩) (n - 2) cap4) w' := fun _ => by kernel_rfl
  clear hb4 ho4 hg4 hx3 hy3
  go_wp2_with (at_builtin; go_must (refine wpList_append_lies _ rfl (.tmp 40) (.tmp 45) 28 rfl w3.heap.size 73 i0 (.agg #[.int .i64 0, .int .i64 0]) 2 16 Try.underlying28 Hi.out hz0 hz1 hz2 rfl (by decide) (.slice (some ⟨g4, 0, none⟩) (n - 2) cap4) (n - 2) _ rfl HRow4.out ⟨w4.heap.size, 0, none⟩ 1 1 [.int .i64 N, .int .i64 ((N : Int) + 1)] rfl rfl (World.news_of_block (cs := #[.int .i64 N, .int .i64 ((N : Int) + 1)]) (t := 73) (fr := (0, 0)) (heap_alloc_new _ _)) (by simp [Value.oneCell']) (by decide) (by unfold maxLen; omega) (by omega) (by simp; omega) (w4.heap.size + 1) (by simp) ?_); intro g5 cap5 w5 hown5 hgrow5 hlie5 hg5; have Hown5 := hid hown5; have HB5 := hid ((HB4.out.alloc hz34 (.cells #[.int .i64 N, .int .i64 ((N : Int) + 1)] 73)).grown hgrow5 (by simp; omega) (fun j hj => hrow4 j hj)); clear hown5 hgrow5 hlie5)
  have HX5 := hid (HX3.out.on HB5.out)
  have HO5 := hid (show w5.ownsRow w3.heap.size 73 2 (.slice (some ⟨g5, 0, none⟩) (n - 1) cap5) (n - 1) (edgeVals (brL N es E F 0)) by rw [brL_zero, edgeVals_append, show n - 1 = n - 2 + 1 by omega]; exact Hown5.out)
  obtain ⟨M0, hM0⟩ : ∃ M, n - 2 + 1 = M := ⟨_, rfl⟩
  rw [hM0]
  have HM0 := hid (show M0 = n - 1 by omega)
  clear hM0 hx4 hy4
  go_loopw [47, 9] (fun i v wr => ∃ (k L cap : Nat) (g : Nat), k ≤ 2 ∧ i = .int .i64 k ∧ v = .slice (some ⟨g, 0, none⟩) L cap ∧ Hid (L = n - 1 + 2 * k ∧ wr.ownsRow w3.heap.size 73 2 (.slice (some ⟨g, 0, none⟩) L cap) L (edgeVals (brL N es E F k))) ∧ Hid (Below w3.heap.size w3 wr)) (fun i _ _ => 2 - (intOf i).toNat)
  case atStart => exact ⟨0, M0, cap5, g5, by omega, rfl, rfl, hid ⟨by have := HM0.out; omega, by rw [HM0.out]; exact HO5.out⟩, HB5⟩
  case round =>
    obtain ⟨k, L, cap, g, hk, rfl, rfl, hC, hB⟩ := hrel
    have hL33 : L ≤ 40 := by rw [hC.out.1]; omega
    have hszr := hB.out.size
    have HXr := hid (HX3.out.on hB.out)
    have hxr := HXr.out.1
    have hyr := HXr.out.2
    have hzr := HXr.out.lt
    by_cases hlt : k < 2
    · have hlt' : (k : Int) < 2 := by omega
      have HRr := hid (Hr.out.on (bfrom (bfrom HB2.out HB3.out) hB.out))
      have hcE := reads_end HRr.out (show E < es.length by have := Hn.out; omega) hlt
      have hcF := reads_end HRr.out (show F < es.length by have := Hn.out; omega) hlt
      have hbr : b < wr.heap.size := by have := HB2.out.size; have := HB3.out.size; omega
      have hE' : (E : Int) < (n : Int) := by omega
      have hF' : (F : Int) < (n : Int) := by omega
      have hrow : ∀ j, (Value.slice (some ⟨g, 0, none⟩) L cap).ownBlock = some j → w3.heap.size ≤ j ∧ j < wr.heap.size := hC.out.2.lt
      have ag : (Value.slice (some ⟨g, 0, none⟩) L cap).ownBlock ≠ some w.heap.size := fun h => by have := (hrow _ h).1; omega
      have ab : (Value.slice (some ⟨g, 0, none⟩) L cap).ownBlock ≠ some b := fun h => by have := (hrow _ h).1; have := HB2.out.size; have := HB3.out.size; omega
      obtain ⟨x, hx⟩ : ∃ x, endF es E k = x := ⟨_, rfl⟩
      obtain ⟨y, hy⟩ : ∃ y, endF es F k = y := ⟨_, rfl⟩
      rw [hx] at hcE
      rw [hy] at hcF
      have HXY := hid (And.intro hx hy)
      clear hx hy
      obtain ⟨wo, rfl⟩ : ∃ wo : World, wo = wr := ⟨_, rfl⟩
      go_wp2
      go_region_held3 (fun w' => w'.cell? ⟨w.heap.size, 1, none⟩ = some (.slice (some ⟨b, off, none⟩) n c) ∧ w'.cell? ⟨b, off + E * 2 + k, none⟩ = some (.int .i64 x) ∧ w'.cell? ⟨b, off + F * 2 + k, none⟩ = some (.int .i64 y))
        (first
          | go_keep
          | (go_split_ands
             refine ⟨?_, ?_, ?_⟩
             · (rw [hgrow.cell_far _ (by simp; omega) (Ne.symm ag)]; assumption)
             · (rw [hgrow.cell_far _ (by simp; omega) (Ne.symm ab)]; assumption)
             · (rw [hgrow.cell_far _ (by simp; omega) (Ne.symm ab)]; assumption)))
        ((refine step_append_lies _ (by rfl) _ _ _ (by rfl) w3.heap.size 73 i0 _ 2 16 Try.underlying28 Hi.out hz0 hz1 hz2 rfl (by omega) (.slice (some ⟨g, 0, none⟩) L cap) L _ (by rfl) ((hC.out.2.alloc _).drew)
            ⟨wo.heap.size, 0, none⟩ 2 2 [.int .i64 x, .int .i64 N, .int .i64 y, .int .i64 ((N : Int) + 1)] (by rfl) (by rfl) (World.news_of_block (cs := #[.int .i64 x, .int .i64 N, .int .i64 y, .int .i64 ((N : Int) + 1)]) (t := 73) (fr := (0, 0)) (heap_alloc_new wo _)) (by simp [Value.oneCell'])
            (by omega) (by unfold maxLen; omega) (by omega) (by simp; omega) (wo.heap.size + 1) (by simp) ?_; intro gg cap' w1 hown1 hgrow hat hlt'))
      have Hown1 := hid hown1
      have HB1 := hid (((hB.out.alloc hB.out.size (.cells #[.int .i64 x, .int .i64 N, .int .i64 y, .int .i64 ((N : Int) + 1)] 73)).drew).grown hgrow (by simp; omega) (fun j hj => (hrow j hj).1))
      clear hown1 hgrow hat
      go_wp2
      go_roundw
      case rel =>
        exact ⟨k + 1, L + 2, cap', gg, by omega, by go_num, rfl, hid ⟨by rw [hC.out.1]; omega, by rw [brL_succ, edgeVals_append, HXY.out.1, HXY.out.2]; exact Hown1.out⟩, HB1⟩
      case measure => simp [intOf]; omega
    · have hk2 := hid (show k = 2 by omega)
      have HL := hid (show L = n + 3 by rw [hC.out.1, hk2.out]; omega)
      have HOE := hid (show OwnE wr g cap (brL N es E F 2) by
        have h := (OwnE.of_row hC.out.2 (by rw [HLen.out, hC.out.1])).1
        rwa [hk2.out] at h)
      have HKr := hid (HK3.out.on hB.out)
      have hzk := HKr.out.lt
      have hgz := HOE.out.lt
      go_wp2_with fail
      refine (inOrder_any g 0 L cap (brL N es E F 2) wr (by omega) (by rw [HLen.out, HL.out]; omega) HOE.out.reads).mono ?_
      rw [HL.out]
      rintro e w6 ⟨rfl, ho6, hb6⟩
      have HO6 := hid ho6
      have HK6 := hid (HKr.out.on hb6)
      have hra := HK6.out.box.1
      have hrb := HK6.out.box.2
      have hfa6 := HK6.out.frozen 0
      have hfb6 := HK6.out.frozen 1
      have hz6 := HK6.out.lt
      have HBw := hid (bfrom (bfrom (bfrom HB2.out HB3.out) hB.out) hb6)
      clear ho6 hb6
      go_wp2
      refine bodyPost_ret (v := .tuple #[.agg #[.int .i64 (N + 2), .slice (some ⟨wr.heap.size, 0, none⟩) (n + 3) (n + 3)], .int .i64 0]) (by simp [results, Try.results36, go_sem, hra, hrb]) rfl ⟨some ⟨wr.heap.size, 0, none⟩, n + 3, rfl, ?_, ?_⟩
      · refine FreshE.of_own ((HO6.out.far (by show wr.heap.size ≠ w.heap.size + 1; omega) _).far (by show wr.heap.size ≠ w.heap.size + 1; omega) _) ?_ (by have := HB2.out.size; have := HB3.out.size; omega)
        rw [sortE_length, HLen.out]
        omega
      · exact (HBw.out.setCell (p := ⟨w.heap.size + 1, 0, none⟩) (by show w.heap.size ≤ w.heap.size + 1; omega) _).setCell (p := ⟨w.heap.size + 1, 1, none⟩) (by show w.heap.size ≤ w.heap.size + 1; omega) _

end Go.Proofs.Ytppkcpekknhbmaa
