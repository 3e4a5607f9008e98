/- Edges set in order by the model. -/
import Derived.Test.YtfdlhdgmbjdhbaaSpecC
import Derived.Test.YtfdlhdgmbjdhbaaRowsE
import Derived.Deep.AppendLies
import Derived.BigRegion
import Derived.Deep.DeepMust
namespace Go.Proofs.Ytfdlhdgmbjdhbaa
open Go.RowKit

set_option maxRecDepth 100000 in
set_option maxHeartbeats 2000000 in
theorem sSort_any (b off m c : Nat) (es : List (Int × Int)) (w : World) (hm : m ≤ 1048576) (hlen : es.length = m) (hr : ReadsE w b off es) :
    Calls Try.prog 67 #[.slice (some ⟨b, off, none⟩) m c] w fun e w' => ∃ v, e = .returned v ∧ w'.ownsRow w.heap.size 57 2 v m (edgeVals (sortE es)) ∧ Below w.heap.size w w' := by
  obtain ⟨i0, hi, hz0, hz1, hz2⟩ := info_parts infoEdge
  have Hl := hid hlen
  have Hr := hid hr
  have hl2 : m ≤ 9223372036854775807 := by omega
  have Hm := hid hm
  have Hi := hid hi
  clear hlen hr hm hi
  go_enter Try.func67, Try.ntmps67
  go_wp2
  go_loopw [3, 4] (fun v i wr => ∃ (k cap : Nat) (q : Option Addr), k ≤ m ∧ v = .slice q k cap ∧ i = .int .i64 k ∧ Hid (wr.ownsRow w.heap.size 57 2 (.slice q k cap) k (edgeVals (sortE (es.take k)))) ∧ Below w.heap.size w wr) (fun _ i _ => m - (intOf i).toNat)
  case atStart => exact ⟨0, 0, _, Nat.zero_le _, rfl, rfl, hid (row_start w es), (Below.refl _ _).alloc (Nat.le_refl _) _⟩
  case round =>
    obtain ⟨k, cap, q, hk, rfl, rfl, hO, hB⟩ := hrel
    by_cases hlt : k < m
    · have hbb : b < w.heap.size := reads_lt Hr.out (by have := Hl.out; omega)
      have hc1 := (hB.cell (p := ⟨b, off + k * 2, none⟩) hbb).trans (Hr.out k (by have := Hl.out; omega)).1
      have hc2 := (hB.cell (p := ⟨b, off + k * 2 + 1, none⟩) hbb).trans (Hr.out k (by have := Hl.out; omega)).2
      have hbr : b < wr.heap.size := Nat.lt_of_lt_of_le hbb hB.size
      go_wp2
      go_region
      have hl : (sortE (es.take k)).length = k := by rw [sortE_length, List.length_take]; have := Hl.out; omega
      have HS := hid hl
      clear hl
      generalize hX : (if eB es k < eA es k then eB es k else eA es k) = X
      generalize hY : (if eA es k < eB es k then eB es k else eA es k) = Y
      have HX := hid (show X = min (eA es k) (eB es k) by rw [← hX, Int.min_def]; split <;> split <;> omega)
      have HY := hid (show Y = max (eA es k) (eB es k) by rw [← hY, Int.max_def]; split <;> split <;> omega)
      clear hX hY hc1 hc2
      obtain ⟨wo, rfl⟩ : ∃ wo : World, wo = wr := ⟨_, rfl⟩
      go_wp2_with (at_builtin; go_must (refine wpList_append_lies _ rfl (.tmp 39) (.tmp 41) 26 rfl w.heap.size 57 i0 (.agg #[.int .i64 0, .int .i64 0]) 2 16 Try.underlying26 Hi.out hz0 hz1 hz2 rfl (by decide) (.slice q k cap) k _ rfl ((hO.out.alloc _).drew.alloc _) ⟨wo.heap.size + 1, 0, none⟩ 1 1 [.int .i64 X, .int .i64 Y] rfl rfl (news_pair wo X Y _ _ _ rfl) (one_pair X Y) (by decide) (by have := Hm.out; unfold maxLen; omega) (by have := Hm.out; omega) (by have := hB.size; simp; omega) (wo.heap.size + 1 + 1) (by simp) ?_); intro g cap' w1 hown1 hgrow1 hlie hg1; have Hown := hid hown1; have Hgrow := hid hgrow1; have Hlie := hid hlie; clear hown1 hgrow1 hlie)
      have hrow : ∀ j, (Value.slice q k cap).ownBlock = some j → w.heap.size ≤ j ∧ j < wo.heap.size := hO.out.lt
      have hog := OwnE.of_row (es := sortE (es.take k) ++ [(X, Y)]) (by rw [edgeVals_append]; exact Hown.out) (by rw [List.length_append, HS.out]; rfl)
      have HO1 := hid hog.1
      have hgb : w.heap.size ≤ g := hog.2
      have hgne : ¬ wo.heap.size = g := by
        rcases Hlie.out with h | h
        · have := (hrow _ h).2; omega
        · omega
      have hrne : some wo.heap.size ≠ (Value.slice q k cap).ownBlock := fun h => by have := (hrow _ h.symm).2; omega
      have hx1 : w1.cell? ⟨wo.heap.size, 0, none⟩ = some (.int .i64 X) := Hgrow.out.cell (a := ⟨wo.heap.size, 0, none⟩) (by show ((wo.alloc _).alloc _).cell? _ = _; simp) hrne
      have hy1 : w1.cell? ⟨wo.heap.size, 1, none⟩ = some (.int .i64 Y) := Hgrow.out.cell (a := ⟨wo.heap.size, 1, none⟩) (by show ((wo.alloc _).alloc _).cell? _ = _; simp) hrne
      have HB1 := hid ((((hB.alloc hB.size (.cells #[.int .i64 X, .int .i64 Y] 57)).alloc (by have := hB.size; simp; omega) (.cells #[.int .i64 X, .int .i64 Y] 57)).drew).grown Hgrow.out (by have := hB.size; simp; omega) (fun j hj => (hrow j hj).1))
      have hsz1 : wo.heap.size < w1.heap.size := World.block_lt_of_cell? w1 _ hx1
      clear hrow hog Hown Hgrow Hlie hrne hB hO
      go_loopw [6] (fun at' wr => ∃ a : Nat, a ≤ k ∧ at' = .int .i64 a ∧ Hid (OwnE wr g cap' (shiftE (sortE (es.take k)) (X, Y) a)) ∧ Hid (∀ j, a ≤ j → j < k → ltE X Y (eA (sortE (es.take k)) j) (eB (sortE (es.take k)) j)) ∧ Hid (Below w.heap.size w wr) ∧ wr.cell? ⟨wo.heap.size, 0, none⟩ = some (.int .i64 X) ∧ wr.cell? ⟨wo.heap.size, 1, none⟩ = some (.int .i64 Y)) (fun a _ => (intOf a).toNat)
      case atStart =>
        refine ⟨k, Nat.le_refl _, rfl, hid ?_, hid (fun j h1 h2 => by omega), HB1, hx1, hy1⟩
        have h := shiftE_end (sortE (es.take k)) (X, Y)
        rw [HS.out] at h
        rw [h]
        exact HO1.out
      case round =>
        obtain ⟨a, ha, rfl, hQ, hG, hBq, hxq, hyq⟩ := hrel
        obtain ⟨wq, rfl⟩ : ∃ wq : World, wq = wr := ⟨_, rfl⟩
        clear hx1 hy1 HO1 HB1
        by_cases ha0 : a = 0
        · subst ha0
          have hd1 := hQ.out.free 0
          have hd2 := hQ.out.free 1
          have hg1' := (hQ.out.reads 0 (by rw [shiftE_length (by omega)]; omega)).1
          have hg2' := (hQ.out.reads 0 (by rw [shiftE_length (by omega)]; omega)).2
          rw [Nat.zero_mul, Nat.zero_add] at hg1' hg2'
          go_wp2
          go_quiet (fail)
          go_wp2
          go_roundw
          case rel =>
            refine ⟨k + 1, cap', _, by omega, rfl, by go_num, hid ?_, ?_⟩
            · have h := sort_close (base := w.heap.size) (OwnE.keep (w' := wq.drew) hQ.out rfl) (by have := Hl.out; omega) (Nat.zero_le _) hgb HX.out HY.out hG.out (fun h => by omega)
              rw [Nat.zero_mul, Nat.zero_add] at h
              exact h
            · first
                | exact (hBq.out.drew.setCell (p := ⟨g, 0, none⟩) hgb _).setCell (p := ⟨g, 1, none⟩) hgb _
                | exact (hBq.out.setCell (p := ⟨g, 0, none⟩) hgb _).setCell (p := ⟨g, 1, none⟩) hgb _
                | exact bdn.mpr ((hBq.out.setCell (p := ⟨g, 0, none⟩) hgb _).setCell (p := ⟨g, 1, none⟩) hgb _)
                | exact ((hBq.out.setCell (p := ⟨g, 0, none⟩) hgb _).setCell (p := ⟨g, 1, none⟩) hgb _).drew
                | (have hh := hBq.out; go_grown)
                | (have hh := hBq.out; simp only [bdn]; go_grown)
                | (trace_state; fail)
          case measure => simp [intOf]; omega
        · obtain ⟨j, rfl⟩ : ∃ j, a = j + 1 := ⟨a - 1, by omega⟩
          clear ha0
          have hpos : decide ((0 : Int) < (j : Int) + 1) = true := by simp
          have e3 : (j : Int) < (k : Int) + 1 := by omega
          have e4 : j < k + 1 := by omega
          have e5 : IntKind.i64.wrap (j : Int) = (j : Int) := IntWalk.i64_in _ (by omega)
          have e6 : IntKind.i64.wrap ((j : Int) + 1) = (j : Int) + 1 := IntWalk.i64_in _ (by omega)
          have hc3 := (hQ.out.reads j (by rw [shiftE_length (by rw [HS.out]; omega), HS.out]; omega)).1
          have hc4 := (hQ.out.reads j (by rw [shiftE_length (by rw [HS.out]; omega), HS.out]; omega)).2
          rw [(shiftE_read (by rw [HS.out]; omega)).1, Nat.zero_add] at hc3
          rw [(shiftE_read (by rw [HS.out]; omega)).2, Nat.zero_add] at hc4
          by_cases g2 : ltE X Y (eA (sortE (es.take k)) j) (eB (sortE (es.take k)) j)
          · have G2 := hid g2
            clear g2
            go_wp2
            go_still_tail 9, (by kernel_rfl)
            go_wp2_with (go_at_call 64; refine (sBefore_yes _ _ _ _ _ G2.out).mono ?_; rintro e w4 ⟨rfl, hb4⟩; have HQ4 := hid ((OwnE.keep (w' := wq.drew) hQ.out rfl).on hb4); have hd1 := HQ4.out.free ((j + 1) * 2); have hd2 := HQ4.out.free ((j + 1) * 2 + 1); have hg1' := (HQ4.out.reads (j + 1) (by rw [shiftE_length (by rw [HS.out]; omega), HS.out]; omega)).1; have hg2' := (HQ4.out.reads (j + 1) (by rw [shiftE_length (by rw [HS.out]; omega), HS.out]; omega)).2; rw [Nat.zero_add] at hg1' hg2'; have hx4 := ((bcells hb4).1 _ _ (World.block_lt_of_cell? wq _ hxq)).trans hxq; have hy4 := ((bcells hb4).1 _ _ (World.block_lt_of_cell? wq _ hyq)).trans hyq; have HB4 := hid (hBq.out.drew.trans (hb4.mono hBq.out.size)); have hlt4 : g < w4.heap.size := HQ4.out.lt; have hc5 := (HQ4.out.reads j (by rw [shiftE_length (by rw [HS.out]; omega), HS.out]; omega)).1; have hc6 := (HQ4.out.reads j (by rw [shiftE_length (by rw [HS.out]; omega), HS.out]; omega)).2; rw [(shiftE_read (by rw [HS.out]; omega)).1, Nat.zero_add] at hc5; rw [(shiftE_read (by rw [HS.out]; omega)).2, Nat.zero_add] at hc6)
            go_roundw
            case rel =>
              refine ⟨j, by omega, rfl, hid ?_, hid (fun i h1 h2 => ?_), hid ((HB4.out.setCell hgb _).setCell hgb _), ?_, ?_⟩
              · rw [← shiftE_step (by rw [HS.out]; omega)]
                exact HQ4.out.set (by rw [shiftE_length (by rw [HS.out]; omega), HS.out]; omega) _ _
              · rcases Nat.lt_or_ge j i with h | h
                · exact hG.out i (by omega) h2
                · obtain rfl : i = j := by omega
                  exact G2.out
              · rw [two_sets_cell hgne]; exact hx4
              · rw [two_sets_cell hgne]; exact hy4
            case measure => first | (simp [intOf]; done) | (simp [intOf]; omega)
          · have G2 := hid g2
            clear g2
            go_wp2
            go_still_tail 9, (by kernel_rfl)
            go_wp2_with (go_at_call 64; refine (sBefore_no _ _ _ _ _ G2.out).mono ?_; rintro e w4 ⟨rfl, hb4⟩; have HQ4 := hid ((OwnE.keep (w' := wq.drew) hQ.out rfl).on hb4); have hd1 := HQ4.out.free ((j + 1) * 2); have hd2 := HQ4.out.free ((j + 1) * 2 + 1); have hg1' := (HQ4.out.reads (j + 1) (by rw [shiftE_length (by rw [HS.out]; omega), HS.out]; omega)).1; have hg2' := (HQ4.out.reads (j + 1) (by rw [shiftE_length (by rw [HS.out]; omega), HS.out]; omega)).2; rw [Nat.zero_add] at hg1' hg2'; have hx4 := ((bcells hb4).1 _ _ (World.block_lt_of_cell? wq _ hxq)).trans hxq; have hy4 := ((bcells hb4).1 _ _ (World.block_lt_of_cell? wq _ hyq)).trans hyq; have HB4 := hid (hBq.out.drew.trans (hb4.mono hBq.out.size)); have hlt4 : g < w4.heap.size := HQ4.out.lt)
            go_roundw
            case rel =>
              refine ⟨k + 1, cap', _, by omega, rfl, by go_num, hid ?_, ?_⟩
              · exact sort_close HQ4.out (by have := Hl.out; omega) ha hgb HX.out HY.out hG.out (fun _ => G2.out)
              · exact (HB4.out.setCell hgb _).setCell hgb _
            case measure => simp [intOf]; omega
    · obtain rfl : k = m := by omega
      go_wp2
      go_ret
      refine ⟨_, rfl, ?_, hB⟩
      have h := hO.out
      rw [List.take_of_length_le (by have := Hl.out; omega)] at h
      exact h

end Go.Proofs.Ytfdlhdgmbjdhbaa
