/- Flower graphs in the program. -/
import Derived.Test.YtppkcpekknhbmaaFlwA
import Derived.Test.YtppkcpekknhbmaaCatE
namespace Go.Proofs.Ytppkcpekknhbmaa
open Go.RowKit Go.Lib

set_option maxHeartbeats 4000000 in
set_option maxRecDepth 100000 in
theorem iRungs_any (K : Nat) (D : Int) (w : World) (hK : 1 ≤ K) (hK2 : K ≤ 20) (hD : 0 ≤ D) (hD2 : D ≤ 1000) :
    Calls Try.prog 100 #[.int .i64 K, .int .i64 D] w fun e w' => ∃ g cap, e = .returned (.slice (some ⟨g, 0, none⟩) K cap) ∧ w.heap.size ≤ g ∧ OwnE w' g cap (rungL K D) ∧ Below w.heap.size w w' := by
  obtain ⟨i0, hi, hz0, hz1, hz2⟩ := info_parts infoEdge
  have Hi := hid hi
  clear hi
  go_enter Try.func100, Try.ntmps100
  go_wp2
  go_loopw [5, 8] (fun u i wr => ∃ (k cap : Nat) (q : Option Addr), k ≤ K ∧ u = .slice q k cap ∧ i = .int .i64 k ∧ Hid (wr.ownsRow w.heap.size 73 2 (.slice q k cap) k (edgeVals (rungL k D))) ∧ Hid (Below w.heap.size w wr)) (fun _ i _ => K - (intOf i).toNat)
  case atStart => exact ⟨0, 0, none, Nat.zero_le _, rfl, rfl, hid (World.ownsRow_nil _ _ _ _), hid (Below.refl _ _)⟩
  case round =>
    obtain ⟨k, cap, q, hk, rfl, rfl, hO, hB⟩ := hrel
    have hszr := hB.out.size
    by_cases hlt : k < K
    · have hlt' : (k : Int) < (K : Int) := by omega
      have e1 : IntKind.i64.wrap ((k : Int) + D) = (k : Int) + D := IntWalk.i64_in _ (by omega)
      have hrow : ∀ i, (Value.slice q k cap).ownBlock = some i → w.heap.size ≤ i ∧ i < wr.heap.size := hO.out.lt
      obtain ⟨wo, rfl⟩ : ∃ wo : World, wo = wr := ⟨_, rfl⟩
      go_wp2_with (at_builtin; go_must (refine wpList_append_lies _ rfl (.tmp 11) (.tmp 17) 28 rfl w.heap.size 73 i0 (.agg #[.int .i64 0, .int .i64 0]) 2 16 Try.underlying28 Hi.out hz0 hz1 hz2 rfl (by decide) (.slice q k cap) k _ rfl (hO.out.alloc _) ⟨wo.heap.size, 0, none⟩ 1 1 [.int .i64 k, .int .i64 ((k : Int) + D)] rfl rfl (World.news_of_block (cs := #[.int .i64 k, .int .i64 ((k : Int) + D)]) (t := 73) (fr := (0, 0)) (heap_alloc_new _ _)) (by simp [Value.oneCell']) (by decide) (by unfold maxLen; omega) (by omega) (by simp; omega) (wo.heap.size + 1) (by simp) ?_); intro g8 cap8 w8 hown8 hgrow8 hlie8 hg8; have Hown8 := hid hown8; have HB8 := hid ((hB.out.alloc hszr (.cells #[.int .i64 k, .int .i64 ((k : Int) + D)] 73)).grown hgrow8 (by simp; omega) (fun i hi => (hrow i hi).1)); clear hown8 hgrow8 hlie8)
      go_roundw
      case rel => exact ⟨k + 1, cap8, some ⟨g8, 0, none⟩, by omega, rfl, by go_num, hid (by rw [rungL_succ, edgeVals_append]; exact Hown8.out), HB8⟩
      case measure => simp [intOf]; omega
    · have hkK := hid (show k = K by omega)
      obtain ⟨g, rfl⟩ : ∃ g, q = some ⟨g, 0, none⟩ := by
        rcases hO.out.2 with ⟨_, h0⟩ | ⟨g, cap', cur, hv, _⟩
        · have := hkK.out; omega
        · injection hv with h1
          exact ⟨g, h1⟩
      have HF := hid (OwnE.of_row hO.out (rungL_len k D))
      go_wp2
      go_ret
      refine ⟨g, cap, by rw [← hkK.out]; rfl, HF.out.2, ?_, hB.out⟩
      rw [← hkK.out]
      exact HF.out.1

set_option maxHeartbeats 4000000 in
set_option maxRecDepth 100000 in
theorem iCyc_any (A0 B0 : Int) (J : Nat) (w : World) (hJ : B0 = A0 + J) (hJ2 : J ≤ 40) (hA : 0 ≤ A0) (hA2 : A0 ≤ 1000) :
    Calls Try.prog 101 #[.int .i64 A0, .int .i64 B0] w fun e w' => ∃ g cap, e = .returned (.slice (some ⟨g, 0, none⟩) (J + 1) cap) ∧ w.heap.size ≤ g ∧ OwnE w' g cap (cycT A0 B0 J) ∧ Below w.heap.size w w' := by
  obtain ⟨i0, hi, hz0, hz1, hz2⟩ := info_parts infoEdge
  have Hi := hid hi
  have HJ := hid hJ
  clear hi hJ
  go_enter Try.func101, Try.ntmps101
  go_wp2
  go_loopw [5, 6] (fun u i wr => ∃ (k cap g : Nat), k ≤ J ∧ u = .slice (some ⟨g, 0, none⟩) (k + 1) cap ∧ i = .int .i64 (A0 + (k : Int)) ∧ Hid (wr.ownsRow w.heap.size 73 2 (.slice (some ⟨g, 0, none⟩) (k + 1) cap) (k + 1) (edgeVals (cycT A0 B0 k))) ∧ Hid (Below w.heap.size w wr)) (fun _ i _ => (B0 - intOf i).toNat)
  case atStart =>
    refine ⟨0, 1, w.heap.size, Nat.zero_le _, rfl, by simp, hid ?_, hid (on_alloc _ _)⟩
    exact ⟨rfl, .inr ⟨w.heap.size, 1, _, rfl, Nat.le_refl _, heap_alloc_new w _, Nat.le_refl _, by unfold maxLen; omega, rfl, rfl⟩⟩
  case round =>
    obtain ⟨k, cap, g, hk, rfl, rfl, hO, hB⟩ := hrel
    have hszr := hB.out.size
    by_cases hlt : k < J
    · have hlt' : A0 + (k : Int) < B0 := by have := HJ.out; omega
      have e1 : IntKind.i64.wrap (A0 + (k : Int) + 1) = A0 + (k : Int) + 1 := IntWalk.i64_in _ (by omega)
      have hrow : ∀ i, (Value.slice (some ⟨g, 0, none⟩) (k + 1) cap).ownBlock = some i → w.heap.size ≤ i ∧ i < wr.heap.size := hO.out.lt
      obtain ⟨wo, rfl⟩ : ∃ wo : World, wo = wr := ⟨_, rfl⟩
      go_wp2_with (at_builtin; go_must (refine wpList_append_lies _ rfl (.tmp 17) (.tmp 22) 28 rfl w.heap.size 73 i0 (.agg #[.int .i64 0, .int .i64 0]) 2 16 Try.underlying28 Hi.out hz0 hz1 hz2 rfl (by decide) (.slice (some ⟨g, 0, none⟩) (k + 1) cap) (k + 1) _ rfl (hO.out.alloc _) ⟨wo.heap.size, 0, none⟩ 1 1 [.int .i64 (A0 + (k : Int)), .int .i64 (A0 + (k : Int) + 1)] rfl rfl (World.news_of_block (cs := #[.int .i64 (A0 + (k : Int)), .int .i64 (A0 + (k : Int) + 1)]) (t := 73) (fr := (0, 0)) (heap_alloc_new _ _)) (by simp [Value.oneCell']) (by decide) (by unfold maxLen; omega) (by omega) (by simp; omega) (wo.heap.size + 1) (by simp) ?_); intro g8 cap8 w8 hown8 hgrow8 hlie8 hg8; have Hown8 := hid hown8; have HB8 := hid ((hB.out.alloc hszr (.cells #[.int .i64 (A0 + (k : Int)), .int .i64 (A0 + (k : Int) + 1)] 73)).grown hgrow8 (by simp; omega) (fun i hi => (hrow i hi).1)); clear hown8 hgrow8 hlie8)
      go_roundw
      case rel => exact ⟨k + 1, cap8, g8, by omega, rfl, by go_num, hid (by rw [cycT_succ, edgeVals_append]; exact Hown8.out), HB8⟩
      case measure => simp [intOf]; omega
    · have hkJ := hid (show k = J by omega)
      have hge : ¬ (A0 + (k : Int) < B0) := by have := HJ.out; omega
      have HF := hid (OwnE.of_row hO.out (cycT_len A0 B0 k))
      go_wp2
      go_ret
      refine ⟨g, cap, by rw [← hkJ.out]; rfl, HF.out.2, ?_, hB.out⟩
      rw [← hkJ.out]
      exact HF.out.1

end Go.Proofs.Ytppkcpekknhbmaa
