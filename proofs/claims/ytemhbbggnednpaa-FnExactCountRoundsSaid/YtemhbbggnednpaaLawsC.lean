/- The laws' marks: numbers written over a result, and read again. -/
import Derived.Test.YtemhbbggnednpaaLawsB
import Derived.Test.YtemhbbggnednpaaRowsE
namespace Go.Proofs.Ytemhbbggnednpaa
open Go.RowKit

set_option maxRecDepth 100000 in
set_option maxHeartbeats 2000000 in
theorem markEdgeS_own (g cap n : Nat) (k0 : Int) (es : List (Int × Int)) (w : World) (hn : es.length = n) (hlen : n ≤ 1048576) (hk0 : 0 ≤ k0) (hk1 : k0 ≤ 4194304) (ho : OwnE w g cap es) :
    Calls Try.prog 49 #[.slice (some ⟨g, 0, none⟩) n cap, .int .i64 k0] w fun e w' => e = .returned (.int .i64 (k0 + 2 * n)) ∧ OwnE w' g cap (marksE k0 n) ∧ w.grownBy w' (some g) := by
  have Hn := hid hn
  have Ho := hid ho
  have hl2 : n ≤ 9223372036854775807 := by omega
  have Hl := hid hlen
  have Hk := hid hk1
  clear hn ho hlen hk1
  go_enter Try.func49, Try.ntmps49
  go_wp2
  go_loopw [1, 5] (fun k i wr => ∃ j : Nat, j ≤ n ∧ i = .int .i64 j ∧ k = .int .i64 (k0 + 2 * j) ∧ Hid (OwnE wr g cap (marksE k0 j ++ es.drop j)) ∧ Hid (w.grownBy wr (some g))) (fun _ i _ => n - (intOf i).toNat)
  case atStart => exact ⟨0, Nat.zero_le _, rfl, by simp, hid (by simpa [marksE] using Ho.out), hid (World.grownBy.refl w _)⟩
  case round =>
    obtain ⟨j, hj, rfl, rfl, hO, hG⟩ := hrel
    by_cases hlt : j < n
    · have f1 := hO.out.free (j * 2)
      have f2 := hO.out.free (j * 2 + 1)
      have g1 := (hO.out.reads j (by simp [marksE_length]; have := Hn.out; omega)).1
      have g2 := (hO.out.reads j (by simp [marksE_length]; have := Hn.out; omega)).2
      rw [Nat.zero_add] at g1 g2
      obtain ⟨q, hq⟩ : ∃ q, k0 + 2 * (j : Int) = q := ⟨_, rfl⟩
      have q1 : 0 ≤ q := by omega
      have q2 : q ≤ 9223372036854775000 := by have := Hk.out; have := Hl.out; omega
      rw [hq]
      have HQ := hid hq
      clear hq
      go_wp2
      refine wp_loop_rounds 3 ?_
      rw [rounds_succ]
      go_wp2
      rw [rounds_succ]
      go_wp2
      rw [rounds_succ]
      go_wp2
      go_roundw
      case rel =>
        refine ⟨j + 1, by omega, by go_num, ?_, hid ?_, hid (gset (gset hG.out _ _) _ _)⟩
        · congr 1
          have := HQ.out
          omega
        · rw [← marksE_step Hn.out hlt, HQ.out]
          exact hO.out.set (by simp [marksE_length]; have := Hn.out; omega) _ _
      case measure => simp [intOf]; omega
    · obtain rfl : j = n := by omega
      go_wp2
      go_ret
      refine ⟨rfl, ?_, hG.out⟩
      have h := hO.out
      rw [List.drop_of_length_le (by have := Hn.out; omega), List.append_nil] at h
      exact h

set_option maxRecDepth 100000 in
set_option maxHeartbeats 2000000 in
theorem heldEdgeS_own (b off c n : Nat) (k0 : Int) (w : World) (hlen : n ≤ 1048576) (hk0 : 0 ≤ k0) (hk1 : k0 ≤ 4194304) (hr : ReadsE w b off (marksE k0 n)) :
    Calls Try.prog 50 #[.slice (some ⟨b, off, none⟩) n c, .int .i64 k0] w fun e w' => e = .returned (.int .i64 (k0 + 2 * n)) ∧ w = w' := by
  have Hr := hid hr
  have hl2 : n ≤ 9223372036854775807 := by omega
  have Hl := hid hlen
  have Hk := hid hk1
  clear hr hlen hk1
  go_enter Try.func50, Try.ntmps50
  go_wp2
  go_loop [1, 5] (fun k i => ∃ j : Nat, j ≤ n ∧ i = .int .i64 j ∧ k = .int .i64 (k0 + 2 * j)) (fun _ i => n - (intOf i).toNat)
  case atStart => exact ⟨0, Nat.zero_le _, rfl, by simp⟩
  case round =>
    obtain ⟨j, hj, rfl, rfl⟩ := hrel
    by_cases hlt : j < n
    · have g1 := (Hr.out j (by rw [marksE_length]; exact hlt)).1
      have g2 := (Hr.out j (by rw [marksE_length]; exact hlt)).2
      rw [(marksE_at hlt).1] at g1
      rw [(marksE_at hlt).2] at g2
      obtain ⟨q, hq⟩ : ∃ q, k0 + 2 * (j : Int) = q := ⟨_, rfl⟩
      have q1 : 0 ≤ q := by omega
      have q2 : q ≤ 9223372036854775000 := by have := Hk.out; have := Hl.out; omega
      rw [hq] at g1 g2 ⊢
      have HQ := hid hq
      have n1 : (q != q) = false := by simp
      have n2 : (q + 1 != q + 1) = false := by simp
      clear hq
      go_wp2
      refine wp_loop_rounds 3 ?_
      rw [rounds_succ]
      go_wp2
      rw [rounds_succ]
      go_wp2
      rw [rounds_succ]
      go_wp2
      go_round
      case rel =>
        refine ⟨j + 1, by omega, by go_num, ?_⟩
        congr 1
        have := HQ.out
        omega
      case measure => simp [intOf]; omega
    · obtain rfl : j = n := by omega
      go_wp2
      go_ret
      exact ⟨rfl, rfl⟩

end Go.Proofs.Ytemhbbggnednpaa
