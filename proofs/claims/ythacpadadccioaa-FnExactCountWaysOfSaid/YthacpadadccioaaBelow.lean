/- Numbers below a bound, in the program: areBelow. -/
import Derived.Test.YthacpadadccioaaImplB
import Derived.Test.YthacpadadccioaaLawsD
namespace Go.Proofs.Ythacpadadccioaa
open Go.RowKit

set_option maxRecDepth 100000 in
set_option maxHeartbeats 2000000 in
theorem iAreBelow_any (N : Int) (b off m c : Nat) (xs : List Int) (w : World) (hx : xs.length = m) (hm : m ≤ 1048576) (hr : ReadsI w b off xs) :
    Calls Try.prog 58 #[.int .i64 N, .slice (some ⟨b, off, none⟩) m c] w fun e w' => e = .returned (.bool (decide (∀ i, i < m → 0 ≤ eI xs i ∧ eI xs i < N))) ∧ w' = w := by
  have Hx := hid hx
  have Hr := hid hr
  have hm9 : m ≤ 9223372036854775807 := by omega
  obtain ⟨r, hR⟩ : ∃ r, decide (∀ i, i < m → 0 ≤ eI xs i ∧ eI xs i < N) = r := ⟨_, rfl⟩
  rw [hR]
  have HR := hid hR
  clear hx hr hR
  go_enter Try.func58, Try.ntmps58
  go_wp2
  go_loop [9] (fun i => ∃ k : Nat, k ≤ m ∧ i = .int .i64 k ∧ Hid (∀ j, j < k → 0 ≤ eI xs j ∧ eI xs j < N)) (fun i => m - (intOf i).toNat)
  case atStart => exact ⟨0, Nat.zero_le _, rfl, hid (fun j hj => by omega)⟩
  case round =>
    obtain ⟨k, hk, rfl, hE⟩ := hrel
    by_cases hlt : k < m
    · have hlt' : (k : Int) < (m : Int) := by omega
      have h1 := Hr.out k (by have := Hx.out; omega)
      obtain ⟨y, hy⟩ : ∃ y, eI xs k = y := ⟨_, rfl⟩
      rw [hy] at h1
      have HY := hid hy
      clear hy
      by_cases hv : 0 ≤ y ∧ y < N
      · have Hv := hid hv
        clear hv
        go_wp2_with (go_at_call 66; refine (iBelow_yes _ _ _ Hv.out).mono ?_; rintro e' w' ⟨rfl, rfl⟩)
        go_round
        case rel =>
          refine ⟨k + 1, by omega, by go_num, hid (fun j hj => ?_)⟩
          rcases Nat.lt_or_ge j k with h | h
          · exact hE.out j h
          · have ej : j = k := by omega
            rw [ej, HY.out]
            exact Hv.out
        case measure => simp [intOf]; omega
      · have Hv := hid hv
        clear hv
        go_wp2_with (go_at_call 66; refine (iBelow_no _ _ _ Hv.out).mono ?_; rintro e' w' ⟨rfl, rfl⟩)
        go_ret
        refine ⟨?_, rfl⟩
        rw [← HR.out, decide_eq_false (fun h => Hv.out (by have h1 := h k hlt; rwa [HY.out] at h1))]
        rfl
    · have hkn := hid (show k = m by omega)
      go_wp2
      go_ret
      refine ⟨?_, rfl⟩
      rw [← HR.out, decide_eq_true (fun j hj => hE.out j (by have := hkn.out; omega))]
      rfl

end Go.Proofs.Ythacpadadccioaa
