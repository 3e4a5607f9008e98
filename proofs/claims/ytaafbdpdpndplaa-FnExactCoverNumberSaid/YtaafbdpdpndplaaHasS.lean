/- Whether a number is in a list, in the model: l04Has. -/
import Derived.Test.YtaafbdpdpndplaaSpecD
import Derived.Test.YtaafbdpdpndplaaFar
namespace Go.Proofs.Ytaafbdpdpndplaa
open Go.RowKit

set_option maxRecDepth 100000 in
set_option maxHeartbeats 2000000 in
theorem sHas_any (q : Option Addr) (n c : Nat) (x : Int) (xs : List Int) (w : World) (hn : xs.length = n) (hm : n ≤ 1048576) (hr : SeesI w q xs) :
    Calls Try.prog 23 #[.slice q n c, .int .i64 x] w fun e w' => e = .returned (.bool (decide (x ∈ xs))) ∧ w = w' := by
  have Hn := hid hn
  have Hr := hid hr
  have hm9 : n ≤ 9223372036854775807 := by omega
  obtain ⟨r, hR⟩ : ∃ r, decide (x ∈ xs) = r := ⟨_, rfl⟩
  rw [hR]
  have HR := hid hR
  clear hn hr hR
  go_enter Try.func23, Try.ntmps23
  go_wp2
  go_loop [5] (fun i => ∃ k : Nat, k ≤ n ∧ i = .int .i64 k ∧ Hid (∀ j, j < k → eI xs j ≠ x)) (fun i => n - (intOf i).toNat)
  case atStart => exact ⟨0, Nat.zero_le _, rfl, hid (fun j hj => by omega)⟩
  case round =>
    obtain ⟨k, hk, rfl, hE⟩ := hrel
    by_cases hlt : k < n
    · obtain ⟨b, off, rfl, hrd⟩ : ∃ b off, q = some ⟨b, off, none⟩ ∧ ReadsI w b off xs := by
        rcases Hr.out with h | h
        · have := Hn.out; rw [h] at this; simp at this; omega
        · exact h
      have h1 := hrd k (by have := Hn.out; omega)
      obtain ⟨y, hy⟩ : ∃ y, eI xs k = y := ⟨_, rfl⟩
      rw [hy] at h1
      have HY := hid hy
      clear hrd hy
      by_cases hxy : y = x
      · have g1 : (y == x) = true := by simpa using hxy
        have HXY := hid hxy
        clear hxy
        go_wp2
        go_ret
        refine ⟨?_, rfl⟩
        rw [← HR.out, decide_eq_true (show x ∈ xs by rw [← HXY.out, ← HY.out]; exact eI_mem (by have := Hn.out; omega))]
        rfl
      · have g1 : (y == x) = false := by simpa using hxy
        have HXY := hid hxy
        clear hxy
        go_wp2
        go_round
        case rel =>
          refine ⟨k + 1, by omega, by go_num, hid (fun j hj => ?_)⟩
          rcases Nat.lt_or_ge j k with h | h
          · exact hE.out j h
          · have ej : j = k := by omega
            rw [ej, HY.out]
            exact HXY.out
        case measure => simp [intOf]; omega
    · have hkn := hid (show k = n by omega)
      go_wp2
      go_ret
      refine ⟨?_, rfl⟩
      rw [← HR.out, decide_eq_false (fun hm => by
        obtain ⟨j, hj, e⟩ := List.getElem_of_mem hm
        exact hE.out j (by have := Hn.out; have := hkn.out; omega) (by rw [eI_lt hj, e]))]
      rfl

end Go.Proofs.Ytaafbdpdpndplaa
