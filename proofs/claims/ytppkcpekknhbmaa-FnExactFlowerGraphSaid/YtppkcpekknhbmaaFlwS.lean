/- FlowerGraph in the model. -/
import Derived.Test.YtppkcpekknhbmaaFlwA
import Derived.Test.YtppkcpekknhbmaaSpecF
import Derived.Test.YtppkcpekknhbmaaLawsF
import Derived.Deep.AppendLies
import Derived.Deep.DeepMust
namespace Go.Proofs.Ytppkcpekknhbmaa
open Go.RowKit Go.Lib

set_option maxHeartbeats 8000000 in
set_option maxRecDepth 100000 in
theorem sFlower_yes (K : Nat) (w : World) (hK : K = 3 ∨ K = 5) :
    Calls Try.prog 39 #[.int .i64 K] w fun e w' => ∃ q cap, e = .returned (.tuple #[.agg #[.int .i64 (4 * (K : Int)), .slice q (6 * K) cap], .int .i64 0]) ∧ FreshE w.heap.size w' q (6 * K) cap (sortE (flM K)) ∧ Below w.heap.size w w' := by
  have hK1 : 3 ≤ K := by omega
  have hK2 : K ≤ 5 := by omega
  have e2 : IntKind.i64.wrap (2 * (K : Int)) = 2 * (K : Int) := IntWalk.i64_in _ (by omega)
  have e3 : IntKind.i64.wrap (3 * (K : Int)) = 3 * (K : Int) := IntWalk.i64_in _ (by omega)
  have e4 : IntKind.i64.wrap (4 * (K : Int)) = 4 * (K : Int) := IntWalk.i64_in _ (by omega)
  have hK0 : ¬ (K : Int) = 0 := by omega
  have hK20 : ¬ 2 * (K : Int) = 0 := by omega
  obtain ⟨b1, hb1⟩ : ∃ b, ((K : Int) != 3) = b := ⟨_, rfl⟩
  have t2 : ((K : Int) != 3 && (K : Int) != 5) = false := by rcases hK with rfl | rfl <;> rfl
  have t3 : b1 = true → ((K : Int) != 5) = false := fun h => by rw [hb1, h] at t2; simpa using t2
  obtain ⟨i0, hi, hz0, hz1, hz2⟩ := info_parts infoEdge
  have Hi := hid hi
  clear hK hi t2
  obtain ⟨w1, hw1⟩ : ∃ w1, w1 = w.alloc (.cells #[.int .i64 0, .slice none 0 0] 30) := ⟨_, rfl⟩
  have HB1 := hid (show Below w.heap.size w w1 by rw [hw1]; exact on_alloc _ _)
  have HX1 := hid (show Box w1 w.heap.size 0 none 0 0 by rw [hw1]; exact Box.new _ _ _ _ _ _)
  have HF1 := hid (show ∀ j, w1.frozen? ⟨w.heap.size, j, none⟩ = false by intro j; rw [hw1]; simp)
  have hz1' := HX1.out.lt
  have HZ1 := hid (show w1.heap.size = w.heap.size + 1 by rw [hw1]; simp)
  cases b1
  · clear t3
    go_enter Try.func39, Try.ntmps39
    go_wp2
    rw [← hw1]
    clear hw1
    go_loopw [4, 5] (fun u i wr => ∃ (k L cap g : Nat), k ≤ K ∧ u = .slice (some ⟨g, 0, none⟩) L cap ∧ i = .int .i64 k ∧ Hid (L = 4 * k ∧ wr.ownsRow w1.heap.size 73 2 (.slice (some ⟨g, 0, none⟩) L cap) L (edgeVals (flA K k))) ∧ Hid (Below w1.heap.size w1 wr)) (fun _ i _ => K - (intOf i).toNat)
    case atStart => exact ⟨0, 0, 0, w1.heap.size, Nat.zero_le _, by rw [HZ1.out], rfl, hid ⟨rfl, World.ownsRow_made (base := w1.heap.size) (e := 73) (size := 2) w1 #[] 0 (Nat.le_refl _) (Nat.zero_le _) rfl⟩, hid (on_alloc _ _)⟩
    case round =>
      obtain ⟨k, L, cap, g, hk, rfl, rfl, hO, hB⟩ := hrel
      have hszr := hB.out.size
      have hL := hO.out.1
      have hL20 : L ≤ 20 := by omega
      have HL := hid hL
      clear hL
      by_cases hlt : k < K
      · have hlt' : (k : Int) < (K : Int) := by omega
        obtain ⟨R, hR⟩ : ∃ R, ((k : Int) + 1) % (K : Int) = R := ⟨_, rfl⟩
        have hR0 : 0 ≤ R := by rw [← hR]; exact Int.emod_nonneg _ hK0
        have hR1 : R < 5 := by have := Int.emod_lt_of_pos ((k : Int) + 1) (show (0 : Int) < (K : Int) by omega); omega
        have a7 : ((k : Int) + 1).tmod (K : Int) = R := by rw [Int.tmod_eq_emod_of_nonneg (by omega), hR]
        have a1 : IntKind.i64.wrap ((K : Int) + (k : Int)) = (K : Int) + (k : Int) := IntWalk.i64_in _ (by omega)
        have a2 : IntKind.i64.wrap (2 * (K : Int) + (k : Int)) = 2 * (K : Int) + (k : Int) := IntWalk.i64_in _ (by omega)
        have a3 : IntKind.i64.wrap (3 * (K : Int) + (k : Int)) = 3 * (K : Int) + (k : Int) := IntWalk.i64_in _ (by omega)
        have a4 : IntKind.i64.wrap ((k : Int) + 1) = (k : Int) + 1 := IntWalk.i64_in _ (by omega)
        have a5 : IntKind.i64.wrap ((K : Int) + R) = (K : Int) + R := IntWalk.i64_in _ (by omega)
        have a6 : IntKind.i64.wrap R = R := IntWalk.i64_in _ (by omega)
        have HRR := hid (show flA K (k + 1) = flA K k ++ [((k : Int), (K : Int) + (k : Int)), ((k : Int), 2 * (K : Int) + (k : Int)), ((k : Int), 3 * (K : Int) + (k : Int)), ((K : Int) + (k : Int), (K : Int) + R)] by rw [flA_succ, hR])
        have hrow : ∀ i, (Value.slice (some ⟨g, 0, none⟩) L cap).ownBlock = some i → w1.heap.size ≤ i ∧ i < wr.heap.size := hO.out.2.lt
        obtain ⟨wo, rfl⟩ : ∃ wo : World, wo = wr := ⟨_, rfl⟩
        clear hR
        go_wp2_with (at_builtin; go_must (refine wpList_append_lies _ rfl (.tmp 20) (.tmp 48) 28 rfl w1.heap.size 73 i0 (.agg #[.int .i64 0, .int .i64 0]) 2 16 Try.underlying28 Hi.out hz0 hz1 hz2 rfl (by decide) (.slice (some ⟨g, 0, none⟩) L cap) L _ rfl (hO.out.2.alloc _) ⟨wo.heap.size, 0, none⟩ 4 4 [.int .i64 k, .int .i64 ((K : Int) + (k : Int)), .int .i64 k, .int .i64 (2 * (K : Int) + (k : Int)), .int .i64 k, .int .i64 (3 * (K : Int) + (k : Int)), .int .i64 ((K : Int) + (k : Int)), .int .i64 ((K : Int) + R)] rfl rfl (World.news_of_block (cs := #[.int .i64 k, .int .i64 ((K : Int) + (k : Int)), .int .i64 k, .int .i64 (2 * (K : Int) + (k : Int)), .int .i64 k, .int .i64 (3 * (K : Int) + (k : Int)), .int .i64 ((K : Int) + (k : Int)), .int .i64 ((K : Int) + R)]) (t := 73) (fr := (0, 0)) (heap_alloc_new _ _)) (by simp [Value.oneCell']) (by decide) (by unfold maxLen; omega) (by omega) (by simp; omega) (wo.heap.size + 1) (by simp) ?_); intro g8 cap8 w8 hown8 hgrow8 hlie8 hg8; have Hown8 := hid hown8; have HB8 := hid ((hB.out.alloc hszr (.cells #[.int .i64 k, .int .i64 ((K : Int) + (k : Int)), .int .i64 k, .int .i64 (2 * (K : Int) + (k : Int)), .int .i64 k, .int .i64 (3 * (K : Int) + (k : Int)), .int .i64 ((K : Int) + (k : Int)), .int .i64 ((K : Int) + R)] 73)).grown hgrow8 (by simp; omega) (fun i hi => (hrow i hi).1)); clear hown8 hgrow8 hlie8)
        go_roundw
        case rel => exact ⟨k + 1, L + 4, cap8, g8, by omega, rfl, by go_num, hid ⟨by have := HL.out; omega, by rw [HRR.out, edgeVals_append]; exact Hown8.out⟩, HB8⟩
        case measure => simp [intOf]; omega
      · have hkK := hid (show k = K by omega)
        have HO := hid (show wr.ownsRow w1.heap.size 73 2 (.slice (some ⟨g, 0, none⟩) L cap) L (edgeVals (flA K K ++ flB K 0)) by
          have h := hO.out.2
          rw [hkK.out] at h
          simpa [flB] using h)
        have HL4 := hid (show L = 4 * K by rw [← hkK.out]; exact HL.out)
        clear hO
        obtain ⟨w5, rfl⟩ : ∃ w5 : World, w5 = wr := ⟨_, rfl⟩
        go_wp2
        go_loopw [4, 6] (fun u i wr => ∃ (k2 L2 cap2 g2 : Nat), k2 ≤ 2 * K ∧ u = .slice (some ⟨g2, 0, none⟩) L2 cap2 ∧ i = .int .i64 k2 ∧ Hid (L2 = 4 * K + k2 ∧ wr.ownsRow w1.heap.size 73 2 (.slice (some ⟨g2, 0, none⟩) L2 cap2) L2 (edgeVals (flA K K ++ flB K k2))) ∧ Hid (Below w1.heap.size w1 wr)) (fun _ i _ => 2 * K - (intOf i).toNat)
        case atStart => exact ⟨0, L, cap, g, Nat.zero_le _, rfl, rfl, hid ⟨by rw [HL4.out]; rfl, HO.out⟩, hB⟩
        case round =>
          obtain ⟨k2, L2, cap2, g2, hk2, rfl, rfl, hO2, hB2⟩ := hrel
          have hszr2 := hB2.out.size
          have hL2 := hO2.out.1
          have hL30 : L2 ≤ 30 := by omega
          have HL2 := hid hL2
          clear hL2
          by_cases hlt2 : k2 < 2 * K
          · have hlt2' : (k2 : Int) < 2 * (K : Int) := by omega
            obtain ⟨R, hR⟩ : ∃ R, ((k2 : Int) + 1) % (2 * (K : Int)) = R := ⟨_, rfl⟩
            have hR0 : 0 ≤ R := by rw [← hR]; exact Int.emod_nonneg _ hK20
            have hR1 : R < 10 := by have := Int.emod_lt_of_pos ((k2 : Int) + 1) (show (0 : Int) < 2 * (K : Int) by omega); omega
            have a7 : ((k2 : Int) + 1).tmod (2 * (K : Int)) = R := by rw [Int.tmod_eq_emod_of_nonneg (by omega), hR]
            have a2 : IntKind.i64.wrap (2 * (K : Int) + (k2 : Int)) = 2 * (K : Int) + (k2 : Int) := IntWalk.i64_in _ (by omega)
            have a4 : IntKind.i64.wrap ((k2 : Int) + 1) = (k2 : Int) + 1 := IntWalk.i64_in _ (by omega)
            have a5 : IntKind.i64.wrap (2 * (K : Int) + R) = 2 * (K : Int) + R := IntWalk.i64_in _ (by omega)
            have a6 : IntKind.i64.wrap R = R := IntWalk.i64_in _ (by omega)
            have HRR := hid (show flA K K ++ flB K (k2 + 1) = (flA K K ++ flB K k2) ++ [(2 * (K : Int) + (k2 : Int), 2 * (K : Int) + R)] by rw [flB_succ, hR, List.append_assoc])
            have hrow : ∀ i, (Value.slice (some ⟨g2, 0, none⟩) L2 cap2).ownBlock = some i → w1.heap.size ≤ i ∧ i < wr.heap.size := hO2.out.2.lt
            obtain ⟨wo, rfl⟩ : ∃ wo : World, wo = wr := ⟨_, rfl⟩
            clear hR
            go_wp2_with (at_builtin; go_must (refine wpList_append_lies _ rfl (.tmp 56) (.tmp 70) 28 rfl w1.heap.size 73 i0 (.agg #[.int .i64 0, .int .i64 0]) 2 16 Try.underlying28 Hi.out hz0 hz1 hz2 rfl (by decide) (.slice (some ⟨g2, 0, none⟩) L2 cap2) L2 _ rfl (hO2.out.2.alloc _) ⟨wo.heap.size, 0, none⟩ 1 1 [.int .i64 (2 * (K : Int) + (k2 : Int)), .int .i64 (2 * (K : Int) + R)] rfl rfl (World.news_of_block (cs := #[.int .i64 (2 * (K : Int) + (k2 : Int)), .int .i64 (2 * (K : Int) + R)]) (t := 73) (fr := (0, 0)) (heap_alloc_new _ _)) (by simp [Value.oneCell']) (by decide) (by unfold maxLen; omega) (by omega) (by simp; omega) (wo.heap.size + 1) (by simp) ?_); intro g8 cap8 w8 hown8 hgrow8 hlie8 hg8; have Hown8 := hid hown8; have HB8 := hid ((hB2.out.alloc hszr2 (.cells #[.int .i64 (2 * (K : Int) + (k2 : Int)), .int .i64 (2 * (K : Int) + R)] 73)).grown hgrow8 (by simp; omega) (fun i hi => (hrow i hi).1)); clear hown8 hgrow8 hlie8)
            go_roundw
            case rel => exact ⟨k2 + 1, L2 + 1, cap8, g8, by omega, rfl, by go_num, hid ⟨by have := HL2.out; omega, by rw [HRR.out, edgeVals_append]; exact Hown8.out⟩, HB8⟩
            case measure => simp [intOf]; omega
          · have hkK2 := hid (show k2 = 2 * K by omega)
            have HL6 := hid (show L2 = 6 * K by have := HL2.out; have := hkK2.out; omega)
            have HOE := hid (show OwnE wr g2 cap2 (flM K) by
              have h := (OwnE.of_row hO2.out.2 (by rw [List.length_append, flA_len, flB_len, HL2.out])).1
              rwa [hkK2.out] at h)
            have HXr := hid (HX1.out.on hB2.out)
            have hzx := HXr.out.lt
            have HFr := hid (fun j => ((bcells hB2.out).2 w.heap.size j hz1').trans (HF1.out j))
            have hge2 : ¬ ((k2 : Int) < 2 * (K : Int)) := by omega
            go_wp2_with fail
            refine (sMade_any (4 * (K : Int)) g2 0 L2 cap2 (flM K) wr (by omega) (by rw [flM_len, HL6.out]) HOE.out.reads).mono ?_
            rw [HL6.out]
            rintro e' w6 ⟨q6, cap6, rfl, hf6, hb6⟩
            have HF6 := hid hf6
            have HKx := HXr.out.on hb6
            have hra := HKx.1
            have hrb := HKx.2
            have hfa6 := ((bcells hb6).2 _ _ hzx).trans (HFr.out 0)
            have hfb6 := ((bcells hb6).2 _ _ hzx).trans (HFr.out 1)
            have hz6 := HKx.lt
            have HBw := hid (bfrom (bfrom HB1.out hB2.out) hb6)
            clear hf6 HKx
            go_wp2
            refine bodyPost_ret (v := .tuple #[.agg #[.int .i64 (4 * (K : Int)), .slice q6 (6 * K) cap6], .int .i64 0]) (by simp [results, Try.results39, go_sem, hra, hrb]) rfl ⟨q6, cap6, rfl, ?_, ?_⟩
            · exact ((HF6.out.far (by show w.heap.size < _; omega) _).far (by show w.heap.size < _; omega) _).less (by have := HB1.out.size; omega)
            · exact (HBw.out.setCell (p := ⟨w.heap.size, 0, none⟩) (by show w.heap.size ≤ w.heap.size; omega) _).setCell (p := ⟨w.heap.size, 1, none⟩) (by show w.heap.size ≤ w.heap.size; omega) _
  · have t4 := t3 rfl
    clear t3
    go_enter Try.func39, Try.ntmps39
    go_wp2
    rw [← hw1]
    clear hw1
    go_loopw [4, 5] (fun u i wr => ∃ (k L cap g : Nat), k ≤ K ∧ u = .slice (some ⟨g, 0, none⟩) L cap ∧ i = .int .i64 k ∧ Hid (L = 4 * k ∧ wr.ownsRow w1.heap.size 73 2 (.slice (some ⟨g, 0, none⟩) L cap) L (edgeVals (flA K k))) ∧ Hid (Below w1.heap.size w1 wr)) (fun _ i _ => K - (intOf i).toNat)
    case atStart => exact ⟨0, 0, 0, w1.heap.size, Nat.zero_le _, by rw [HZ1.out], rfl, hid ⟨rfl, World.ownsRow_made (base := w1.heap.size) (e := 73) (size := 2) w1 #[] 0 (Nat.le_refl _) (Nat.zero_le _) rfl⟩, hid (on_alloc _ _)⟩
    case round =>
      obtain ⟨k, L, cap, g, hk, rfl, rfl, hO, hB⟩ := hrel
      have hszr := hB.out.size
      have hL := hO.out.1
      have hL20 : L ≤ 20 := by omega
      have HL := hid hL
      clear hL
      by_cases hlt : k < K
      · have hlt' : (k : Int) < (K : Int) := by omega
        obtain ⟨R, hR⟩ : ∃ R, ((k : Int) + 1) % (K : Int) = R := ⟨_, rfl⟩
        have hR0 : 0 ≤ R := by rw [← hR]; exact Int.emod_nonneg _ hK0
        have hR1 : R < 5 := by have := Int.emod_lt_of_pos ((k : Int) + 1) (show (0 : Int) < (K : Int) by omega); omega
        have a7 : ((k : Int) + 1).tmod (K : Int) = R := by rw [Int.tmod_eq_emod_of_nonneg (by omega), hR]
        have a1 : IntKind.i64.wrap ((K : Int) + (k : Int)) = (K : Int) + (k : Int) := IntWalk.i64_in _ (by omega)
        have a2 : IntKind.i64.wrap (2 * (K : Int) + (k : Int)) = 2 * (K : Int) + (k : Int) := IntWalk.i64_in _ (by omega)
        have a3 : IntKind.i64.wrap (3 * (K : Int) + (k : Int)) = 3 * (K : Int) + (k : Int) := IntWalk.i64_in _ (by omega)
        have a4 : IntKind.i64.wrap ((k : Int) + 1) = (k : Int) + 1 := IntWalk.i64_in _ (by omega)
        have a5 : IntKind.i64.wrap ((K : Int) + R) = (K : Int) + R := IntWalk.i64_in _ (by omega)
        have a6 : IntKind.i64.wrap R = R := IntWalk.i64_in _ (by omega)
        have HRR := hid (show flA K (k + 1) = flA K k ++ [((k : Int), (K : Int) + (k : Int)), ((k : Int), 2 * (K : Int) + (k : Int)), ((k : Int), 3 * (K : Int) + (k : Int)), ((K : Int) + (k : Int), (K : Int) + R)] by rw [flA_succ, hR])
        have hrow : ∀ i, (Value.slice (some ⟨g, 0, none⟩) L cap).ownBlock = some i → w1.heap.size ≤ i ∧ i < wr.heap.size := hO.out.2.lt
        obtain ⟨wo, rfl⟩ : ∃ wo : World, wo = wr := ⟨_, rfl⟩
        clear hR
        go_wp2_with (at_builtin; go_must (refine wpList_append_lies _ rfl (.tmp 20) (.tmp 48) 28 rfl w1.heap.size 73 i0 (.agg #[.int .i64 0, .int .i64 0]) 2 16 Try.underlying28 Hi.out hz0 hz1 hz2 rfl (by decide) (.slice (some ⟨g, 0, none⟩) L cap) L _ rfl (hO.out.2.alloc _) ⟨wo.heap.size, 0, none⟩ 4 4 [.int .i64 k, .int .i64 ((K : Int) + (k : Int)), .int .i64 k, .int .i64 (2 * (K : Int) + (k : Int)), .int .i64 k, .int .i64 (3 * (K : Int) + (k : Int)), .int .i64 ((K : Int) + (k : Int)), .int .i64 ((K : Int) + R)] rfl rfl (World.news_of_block (cs := #[.int .i64 k, .int .i64 ((K : Int) + (k : Int)), .int .i64 k, .int .i64 (2 * (K : Int) + (k : Int)), .int .i64 k, .int .i64 (3 * (K : Int) + (k : Int)), .int .i64 ((K : Int) + (k : Int)), .int .i64 ((K : Int) + R)]) (t := 73) (fr := (0, 0)) (heap_alloc_new _ _)) (by simp [Value.oneCell']) (by decide) (by unfold maxLen; omega) (by omega) (by simp; omega) (wo.heap.size + 1) (by simp) ?_); intro g8 cap8 w8 hown8 hgrow8 hlie8 hg8; have Hown8 := hid hown8; have HB8 := hid ((hB.out.alloc hszr (.cells #[.int .i64 k, .int .i64 ((K : Int) + (k : Int)), .int .i64 k, .int .i64 (2 * (K : Int) + (k : Int)), .int .i64 k, .int .i64 (3 * (K : Int) + (k : Int)), .int .i64 ((K : Int) + (k : Int)), .int .i64 ((K : Int) + R)] 73)).grown hgrow8 (by simp; omega) (fun i hi => (hrow i hi).1)); clear hown8 hgrow8 hlie8)
        go_roundw
        case rel => exact ⟨k + 1, L + 4, cap8, g8, by omega, rfl, by go_num, hid ⟨by have := HL.out; omega, by rw [HRR.out, edgeVals_append]; exact Hown8.out⟩, HB8⟩
        case measure => simp [intOf]; omega
      · have hkK := hid (show k = K by omega)
        have HO := hid (show wr.ownsRow w1.heap.size 73 2 (.slice (some ⟨g, 0, none⟩) L cap) L (edgeVals (flA K K ++ flB K 0)) by
          have h := hO.out.2
          rw [hkK.out] at h
          simpa [flB] using h)
        have HL4 := hid (show L = 4 * K by rw [← hkK.out]; exact HL.out)
        clear hO
        obtain ⟨w5, rfl⟩ : ∃ w5 : World, w5 = wr := ⟨_, rfl⟩
        go_wp2
        go_loopw [4, 6] (fun u i wr => ∃ (k2 L2 cap2 g2 : Nat), k2 ≤ 2 * K ∧ u = .slice (some ⟨g2, 0, none⟩) L2 cap2 ∧ i = .int .i64 k2 ∧ Hid (L2 = 4 * K + k2 ∧ wr.ownsRow w1.heap.size 73 2 (.slice (some ⟨g2, 0, none⟩) L2 cap2) L2 (edgeVals (flA K K ++ flB K k2))) ∧ Hid (Below w1.heap.size w1 wr)) (fun _ i _ => 2 * K - (intOf i).toNat)
        case atStart => exact ⟨0, L, cap, g, Nat.zero_le _, rfl, rfl, hid ⟨by rw [HL4.out]; rfl, HO.out⟩, hB⟩
        case round =>
          obtain ⟨k2, L2, cap2, g2, hk2, rfl, rfl, hO2, hB2⟩ := hrel
          have hszr2 := hB2.out.size
          have hL2 := hO2.out.1
          have hL30 : L2 ≤ 30 := by omega
          have HL2 := hid hL2
          clear hL2
          by_cases hlt2 : k2 < 2 * K
          · have hlt2' : (k2 : Int) < 2 * (K : Int) := by omega
            obtain ⟨R, hR⟩ : ∃ R, ((k2 : Int) + 1) % (2 * (K : Int)) = R := ⟨_, rfl⟩
            have hR0 : 0 ≤ R := by rw [← hR]; exact Int.emod_nonneg _ hK20
            have hR1 : R < 10 := by have := Int.emod_lt_of_pos ((k2 : Int) + 1) (show (0 : Int) < 2 * (K : Int) by omega); omega
            have a7 : ((k2 : Int) + 1).tmod (2 * (K : Int)) = R := by rw [Int.tmod_eq_emod_of_nonneg (by omega), hR]
            have a2 : IntKind.i64.wrap (2 * (K : Int) + (k2 : Int)) = 2 * (K : Int) + (k2 : Int) := IntWalk.i64_in _ (by omega)
            have a4 : IntKind.i64.wrap ((k2 : Int) + 1) = (k2 : Int) + 1 := IntWalk.i64_in _ (by omega)
            have a5 : IntKind.i64.wrap (2 * (K : Int) + R) = 2 * (K : Int) + R := IntWalk.i64_in _ (by omega)
            have a6 : IntKind.i64.wrap R = R := IntWalk.i64_in _ (by omega)
            have HRR := hid (show flA K K ++ flB K (k2 + 1) = (flA K K ++ flB K k2) ++ [(2 * (K : Int) + (k2 : Int), 2 * (K : Int) + R)] by rw [flB_succ, hR, List.append_assoc])
            have hrow : ∀ i, (Value.slice (some ⟨g2, 0, none⟩) L2 cap2).ownBlock = some i → w1.heap.size ≤ i ∧ i < wr.heap.size := hO2.out.2.lt
            obtain ⟨wo, rfl⟩ : ∃ wo : World, wo = wr := ⟨_, rfl⟩
            clear hR
            go_wp2_with (at_builtin; go_must (refine wpList_append_lies _ rfl (.tmp 56) (.tmp 70) 28 rfl w1.heap.size 73 i0 (.agg #[.int .i64 0, .int .i64 0]) 2 16 Try.underlying28 Hi.out hz0 hz1 hz2 rfl (by decide) (.slice (some ⟨g2, 0, none⟩) L2 cap2) L2 _ rfl (hO2.out.2.alloc _) ⟨wo.heap.size, 0, none⟩ 1 1 [.int .i64 (2 * (K : Int) + (k2 : Int)), .int .i64 (2 * (K : Int) + R)] rfl rfl (World.news_of_block (cs := #[.int .i64 (2 * (K : Int) + (k2 : Int)), .int .i64 (2 * (K : Int) + R)]) (t := 73) (fr := (0, 0)) (heap_alloc_new _ _)) (by simp [Value.oneCell']) (by decide) (by unfold maxLen; omega) (by omega) (by simp; omega) (wo.heap.size + 1) (by simp) ?_); intro g8 cap8 w8 hown8 hgrow8 hlie8 hg8; have Hown8 := hid hown8; have HB8 := hid ((hB2.out.alloc hszr2 (.cells #[.int .i64 (2 * (K : Int) + (k2 : Int)), .int .i64 (2 * (K : Int) + R)] 73)).grown hgrow8 (by simp; omega) (fun i hi => (hrow i hi).1)); clear hown8 hgrow8 hlie8)
            go_roundw
            case rel => exact ⟨k2 + 1, L2 + 1, cap8, g8, by omega, rfl, by go_num, hid ⟨by have := HL2.out; omega, by rw [HRR.out, edgeVals_append]; exact Hown8.out⟩, HB8⟩
            case measure => simp [intOf]; omega
          · have hkK2 := hid (show k2 = 2 * K by omega)
            have HL6 := hid (show L2 = 6 * K by have := HL2.out; have := hkK2.out; omega)
            have HOE := hid (show OwnE wr g2 cap2 (flM K) by
              have h := (OwnE.of_row hO2.out.2 (by rw [List.length_append, flA_len, flB_len, HL2.out])).1
              rwa [hkK2.out] at h)
            have HXr := hid (HX1.out.on hB2.out)
            have hzx := HXr.out.lt
            have HFr := hid (fun j => ((bcells hB2.out).2 w.heap.size j hz1').trans (HF1.out j))
            have hge2 : ¬ ((k2 : Int) < 2 * (K : Int)) := by omega
            go_wp2_with fail
            refine (sMade_any (4 * (K : Int)) g2 0 L2 cap2 (flM K) wr (by omega) (by rw [flM_len, HL6.out]) HOE.out.reads).mono ?_
            rw [HL6.out]
            rintro e' w6 ⟨q6, cap6, rfl, hf6, hb6⟩
            have HF6 := hid hf6
            have HKx := HXr.out.on hb6
            have hra := HKx.1
            have hrb := HKx.2
            have hfa6 := ((bcells hb6).2 _ _ hzx).trans (HFr.out 0)
            have hfb6 := ((bcells hb6).2 _ _ hzx).trans (HFr.out 1)
            have hz6 := HKx.lt
            have HBw := hid (bfrom (bfrom HB1.out hB2.out) hb6)
            clear hf6 HKx
            go_wp2
            refine bodyPost_ret (v := .tuple #[.agg #[.int .i64 (4 * (K : Int)), .slice q6 (6 * K) cap6], .int .i64 0]) (by simp [results, Try.results39, go_sem, hra, hrb]) rfl ⟨q6, cap6, rfl, ?_, ?_⟩
            · exact ((HF6.out.far (by show w.heap.size < _; omega) _).far (by show w.heap.size < _; omega) _).less (by have := HB1.out.size; omega)
            · exact (HBw.out.setCell (p := ⟨w.heap.size, 0, none⟩) (by show w.heap.size ≤ w.heap.size; omega) _).setCell (p := ⟨w.heap.size, 1, none⟩) (by show w.heap.size ≤ w.heap.size; omega) _

end Go.Proofs.Ytppkcpekknhbmaa
