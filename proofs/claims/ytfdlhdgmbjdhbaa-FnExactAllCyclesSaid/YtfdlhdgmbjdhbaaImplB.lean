/- The program's count of the edges at each vertex. -/
import Derived.Test.YtfdlhdgmbjdhbaaImplA
namespace Go.Proofs.Ytfdlhdgmbjdhbaa
open Go.RowKit

set_option maxRecDepth 100000 in
set_option maxHeartbeats 2000000 in
theorem iThree_any (N b off m c : Nat) (es : List (Int × Int)) (w : World) (hE : Ends N es) (hlen : es.length = m) (hr : ReadsE w b off es) :
    Calls Try.prog 97 #[.int .i64 N, .slice (some ⟨b, off, none⟩) m c] w fun e w' => e = .returned (.bool (decide (Cubic N es))) ∧ Below w.heap.size w w' := by
  obtain ⟨⟨s1, s2, _, s4⟩, he⟩ := hE
  have hN : N ≤ 20 := by omega
  have hm : m ≤ 30 := by omega
  have Hl := hid hlen
  have Hr := hid hr
  have He := hid he
  clear s1 s2 s4 hlen hr he
  obtain ⟨r, hR⟩ : ∃ r : Bool, r = decide (Cubic N es) := ⟨_, rfl⟩
  rw [← hR]
  have HR := hid hR
  clear hR
  obtain ⟨i0, hi, hz0, hz1, hz2⟩ := info_parts infoInt
  go_enter Try.func97, Try.ntmps97
  go_wp2_with (at_make; refine wpList_make_full _ rfl _ _ 41 rfl w.heap.size 2 i0 (.int .i64 0) 1 Try.underlying41 hi hz0 hz1 _ _ _ _ N rfl rfl rfl rfl (by rw [hz2]; omega) (by unfold maxLen; omega) (Nat.le_refl _) ?_; intro w1 hown hgrow)
  have Ho := hid (OwnI.made hown)
  have Hb := hid ((Below.refl w.heap.size w).grown hgrow (Nat.le_refl _) (fun k e => by cases e))
  clear hown hgrow hi hz0 hz1 hz2
  go_loopw [14] (fun i wr => ∃ (k : Nat) (cs : List Int), k ≤ m ∧ i = .int .i64 k ∧ Hid (cs.length = N ∧ (∀ v, v < N → eI cs v = deg (es.take k) v) ∧ OwnI wr w.heap.size N cs) ∧ Below w.heap.size w wr) (fun i _ => m - (intOf i).toNat)
  case atStart => exact ⟨0, _, Nat.zero_le _, rfl, hid ⟨List.length_replicate, fun v hv => by rw [eI_lt (by simpa using hv)]; simp [deg], Ho.out⟩, Hb.out⟩
  case round =>
    obtain ⟨k, cs, hk, rfl, hC, hB⟩ := hrel
    clear Ho Hb
    by_cases hlt : k < m
    · have hbb : b < w.heap.size := reads_lt Hr.out (by have := Hl.out; omega)
      have hc1 := (Hr.out.below hB hbb k (by have := Hl.out; omega)).1
      have hc2 := (Hr.out.below hB hbb k (by have := Hl.out; omega)).2
      have hok := He.out k (by have := Hl.out; omega)
      obtain ⟨X, hX⟩ : ∃ X : Nat, eA es k = X := ⟨_, (Int.toNat_of_nonneg hok.1).symm⟩
      obtain ⟨Y, hY⟩ : ∃ Y : Nat, eB es k = Y := ⟨_, (Int.toNat_of_nonneg hok.2.2.1).symm⟩
      have hXN : X < N := by have := hok.2.1; omega
      have hYN : Y < N := by have := hok.2.2.2.1; omega
      have hXY : X ≠ Y := by have := hok.2.2.2.2; omega
      rw [hX] at hc1
      rw [hY] at hc2
      have g1 := hC.out.2.2.reads X (by have := hC.out.1; omega)
      have g2 := hC.out.2.2.reads Y (by have := hC.out.1; omega)
      have f1 := hC.out.2.2.free X
      have f2 := hC.out.2.2.free Y
      have d1 := deg_le (es.take k) X
      have d2 := deg_le (es.take k) Y
      rw [← hC.out.2.1 X hXN] at d1
      rw [← hC.out.2.1 Y hYN] at d2
      have hkl : (es.take k).length ≤ 30 := by rw [List.length_take]; omega
      obtain ⟨cX, hcX⟩ : ∃ q, eI cs X = q := ⟨_, rfl⟩
      obtain ⟨cY, hcY⟩ : ∃ q, eI cs Y = q := ⟨_, rfl⟩
      rw [Nat.zero_add] at g1 g2
      rw [hcX] at g1 d1
      rw [hcY] at g2 d2
      have d3 : 0 ≤ cX := d1.1
      have d4 : cX ≤ 60 := by omega
      have d5 : 0 ≤ cY := d2.1
      have d6 : cY ≤ 60 := by omega
      have hYX : ¬ Y = X := fun e => hXY e.symm
      have hbg : ¬ b = w.heap.size := by omega
      have hgz : w.heap.size < wr.heap.size := hC.out.2.2.lt
      have HX := hid hX
      have HY := hid hY
      have HcX := hid hcX
      have HcY := hid hcY
      have Hok := hid hok
      clear d1 d2 hX hY hcX hcY hok hkl
      go_wp2
      go_roundw
      case rel =>
        refine ⟨k + 1, _, by omega, by go_num, hid ⟨?_, count_step (X := X) (Y := Y) (by have := Hl.out; omega) hC.out.1 HX.out HY.out hXY hXN hYN hC.out.2.1, ?_⟩, ?_⟩
        · simp [hC.out.1]
        · rw [HcX.out, HcY.out]
          exact ((hC.out.2.2.set (by have := hC.out.1; omega) _).set (by simp; have := hC.out.1; omega) _).alloc _
        · exact ((hB.setCell (Nat.le_refl _) _).setCell (Nat.le_refl _) _).alloc (by simpa using hB.size) _
      case measure => simp [intOf]; omega
    · obtain rfl : k = m := by omega
      have hcs : Hid (cs.length = N ∧ ∀ v, v < N → eI cs v = deg es v) := hid ⟨hC.out.1, fun v hv => by
        have h := hC.out.2.1 v hv
        rw [List.take_of_length_le (by have := Hl.out; omega)] at h
        exact h⟩
      go_wp2
      go_loop [35] (fun v => ∃ j : Nat, j ≤ N ∧ v = .int .i64 j ∧ Hid (∀ v, v < j → eI cs v = 3)) (fun v => N - (intOf v).toNat)
      case atStart => exact ⟨0, Nat.zero_le _, rfl, hid (fun v hv => by omega)⟩
      case round =>
        obtain ⟨j, hj, rfl, hJ⟩ := hrel
        by_cases hlj : j < N
        · have g1 := hC.out.2.2.reads j (by have := hC.out.1; omega)
          rw [Nat.zero_add] at g1
          by_cases h3 : eI cs j = 3
          · have H3 := hid h3
            rw [h3] at g1
            clear h3
            go_wp2
            go_round
            case rel =>
              refine ⟨j + 1, by omega, by go_num, hid fun v hv => ?_⟩
              rcases Nat.lt_or_ge v j with h | h
              · exact hJ.out v h
              · obtain rfl : v = j := by omega
                exact H3.out
            case measure => simp [intOf]; omega
          · have h3' : (eI cs j != 3) = true := by simpa using h3
            have H3 := hid h3
            clear h3
            go_wp2
            go_ret
            refine ⟨?_, hB⟩
            rw [HR.out, decide_eq_false (fun h => H3.out ((hcs.out.2 j hlj).trans (h j hlj)))]
            rfl
        · go_wp2
          go_ret
          obtain rfl : j = N := by omega
          refine ⟨?_, hB⟩
          rw [HR.out, decide_eq_true (show Cubic j es from fun v hv => (hcs.out.2 v hv).symm.trans (hJ.out v hv))]
          rfl

end Go.Proofs.Ytfdlhdgmbjdhbaa
