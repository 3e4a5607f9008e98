/- Edges set in order by the program. -/
import Derived.Test.YtafiockejagapaaSortCall
namespace Go.Proofs.Ytafiockejagapaa
open Go.RowKit

set_option maxRecDepth 100000 in
set_option maxHeartbeats 2000000 in
theorem inOrder_any (b off m c : Nat) (es : List (Int × Int)) (w : World) (hm : m ≤ 1048576) (hlen : es.length = m) (hr : ReadsE w b off es) :
    Calls Try.prog 129 #[.slice (some ⟨b, off, none⟩) m c] w fun e w' => e = .returned (.slice (some ⟨w.heap.size, 0, none⟩) m m) ∧ OwnE w' w.heap.size m (sortE es) ∧ Below w.heap.size w w' := by
  obtain ⟨i0, hi, hz0, hz1, hz2⟩ := info_parts infoEdge
  have Hl := hid hlen
  have Hr := hid hr
  have hl2 : m ≤ 9223372036854775807 := by omega
  have Hm := hid hm
  clear hlen hr hm
  go_enter Try.func129, Try.ntmps129
  go_wp2_with (at_make; refine wpList_make_full _ rfl _ _ 28 rfl w.heap.size 61 i0 (.agg #[.int .i64 0, .int .i64 0]) 2 Try.underlying28 hi hz0 hz1 _ _ _ _ m rfl rfl rfl rfl (by have := Hm.out; rw [hz2]; omega) (by unfold maxLen; omega) (Nat.le_refl _) ?_; intro w1 hown hgrow)
  have Ho := hid (OwnE.made hown)
  have Hb := hid ((Below.refl w.heap.size w).grown hgrow (Nat.le_refl _) (fun k e => by cases e))
  clear hown hgrow hi hz0 hz1 hz2
  go_loopw [11] (fun i wr => ∃ k : Nat, k ≤ m ∧ i = .int .i64 k ∧ OwnE wr w.heap.size m ((es.map normE).take k ++ List.replicate (m - k) (0, 0)) ∧ Below w.heap.size w wr) (fun i _ => m - (intOf i).toNat)
  case atStart => exact ⟨0, Nat.zero_le _, rfl, by simpa using Ho.out, Hb.out⟩
  case round =>
    obtain ⟨k, hk, rfl, hO, hB⟩ := hrel
    clear Ho Hb
    by_cases hlt : k < m
    · have hbb : b < w.heap.size := reads_lt Hr.out (by have := Hl.out; omega)
      have hc1 := (hB.cell (p := ⟨b, off + k * 2, none⟩) hbb).trans (Hr.out k (by have := Hl.out; omega)).1
      have hc2 := (hB.cell (p := ⟨b, off + k * 2 + 1, none⟩) hbb).trans (Hr.out k (by have := Hl.out; omega)).2
      have f1 := hO.free (k * 2)
      have f2 := hO.free (k * 2 + 1)
      have g1 := (hO.reads k (by simp; have := Hl.out; omega)).1
      have g2 := (hO.reads k (by simp; have := Hl.out; omega)).2
      have hgl := hO.lt
      rw [Nat.zero_add] at g1 g2
      have HO := hid hO
      clear hO
      go_wp2
      go_roundw
      case rel =>
        refine ⟨k + 1, by omega, by go_num, ?_, ?_⟩
        · rw [← fill_step (es := es.map normE) (by rw [List.length_map]; exact Hl.out) hlt _ (norm_at (by have := Hl.out; omega))]
          exact (HO.out.set (by simp; have := Hl.out; omega) _ _).alloc _
        · exact ((hB.setCell (Nat.le_refl _) _).setCell (Nat.le_refl _) _).alloc (by simpa using hB.size) _
      case measure => simp [intOf]; omega
    · obtain rfl : k = m := by omega
      rw [Nat.sub_self, List.replicate_zero, List.append_nil, List.take_of_length_le (by rw [List.length_map]; have := Hl.out; omega)] at hO
      have HO := hid hO
      clear hO
      go_wp2_with (go_at_call 150; refine (sortFunc_any _ _ _ (es.map normE) _ HO.out (by rw [List.length_map]; exact Hl.out) Hm.out).mono ?_; rintro e w2 ⟨rfl, ho2, hb2⟩; have HO2 := hid ho2; clear ho2)
      go_ret
      exact ⟨rfl, HO2.out, hB.trans hb2⟩

end Go.Proofs.Ytafiockejagapaa
