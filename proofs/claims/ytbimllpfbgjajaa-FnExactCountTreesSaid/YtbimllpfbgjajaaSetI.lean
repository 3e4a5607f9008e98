/- Sets of numbers in the program: slices.Contains, and whether a list is a set. -/
import Derived.Test.YtbimllpfbgjajaaImplB
import Derived.Test.YtbimllpfbgjajaaCutA
namespace Go.Proofs.Ytbimllpfbgjajaa
open Go.RowKit

/-- What slices.Index hands back tells whether a number is in the list. -/
def IdxPost (xs : List Int) (x : Int) (w : World) (e : Ending) (w' : World) : Prop := ∃ r : Int, e = .returned (.int .i64 r) ∧ decide (0 ≤ r) = decide (x ∈ xs) ∧ w = w'

theorem not_in_take {xs : List Int} {x : Int} {n : Nat} (hl : xs.length = n) (h : ∀ j, j < n → eI xs j ≠ x) : x ∉ xs := fun hm => by
  obtain ⟨j, hj, e⟩ := List.getElem_of_mem hm
  exact h j (by omega) (by rw [eI_lt hj, e])
theorem in_at {xs : List Int} {x : Int} {k : Nat} (hk : k < xs.length) (h : eI xs k = x) : x ∈ xs := by
  rw [← h, eI_lt hk]
  exact List.getElem_mem hk

set_option maxRecDepth 100000 in
set_option maxHeartbeats 2000000 in
theorem iIndex_any (q : Option Addr) (n c : Nat) (x : Int) (xs : List Int) (w : World) (hn : xs.length = n) (hm : n ≤ 1048576) (hr : SeesI w q xs) :
    Calls Try.prog 140 #[.slice q n c, .int .i64 x] w (IdxPost xs x w) := by
  have Hn := hid hn
  have Hr := hid hr
  have hm9 : n ≤ 9223372036854775807 := by omega
  clear hn hr
  go_enter Try.func140, Try.ntmps140
  go_wp2
  go_loop [8] (fun i => ∃ k : Nat, k ≤ n ∧ i = .int .i64 k ∧ Hid (∀ j, j < k → eI xs j ≠ x)) (fun i => n - (intOf i).toNat)
  case atStart => exact ⟨0, Nat.zero_le _, rfl, hid (fun j hj => by omega)⟩
  case round =>
    obtain ⟨k, hk, rfl, hE⟩ := hrel
    by_cases hlt : k < n
    · obtain ⟨b, off, rfl, hrd⟩ : ∃ b off, q = some ⟨b, off, none⟩ ∧ ReadsI w b off xs := by
        rcases Hr.out with h | h
        · have := Hn.out; rw [h] at this; simp at this; omega
        · exact h
      have h1 := hrd k (by have := Hn.out; omega)
      obtain ⟨y, hy⟩ : ∃ y, eI xs k = y := ⟨_, rfl⟩
      rw [hy] at h1
      have HY := hid hy
      clear hrd hy
      by_cases hxy : x = y
      · have g1 : (x == y) = true := by simpa using hxy
        have HXY := hid hxy
        clear hxy
        go_wp2
        go_ret
        exact ⟨k, rfl, by rw [decide_eq_true (show (0 : Int) ≤ (k : Int) by omega), decide_eq_true (in_at (k := k) (by have := Hn.out; omega) (HY.out.trans HXY.out.symm))], rfl⟩
      · have g1 : (x == y) = false := by simpa using hxy
        have HXY := hid hxy
        clear hxy
        go_wp2
        go_round
        case rel =>
          refine ⟨k + 1, by omega, by go_num, hid (fun j hj => ?_)⟩
          rcases Nat.lt_or_ge j k with h | h
          · exact hE.out j h
          · obtain rfl : j = k := by omega
            exact fun e => HXY.out (by rw [← HY.out, e])
        case measure => simp [intOf]; omega
    · obtain rfl : k = n := by omega
      go_wp2
      go_ret
      exact ⟨-1, rfl, by rw [decide_eq_false (not_in_take Hn.out hE.out)]; rfl, rfl⟩

set_option maxRecDepth 100000 in
set_option maxHeartbeats 2000000 in
theorem iContains_any (q : Option Addr) (n c : Nat) (x : Int) (xs : List Int) (w : World) (hn : xs.length = n) (hm : n ≤ 1048576) (hr : SeesI w q xs) :
    Calls Try.prog 95 #[.slice q n c, .int .i64 x] w fun e w' => e = .returned (.bool (decide (x ∈ xs))) ∧ w = w' := by
  obtain ⟨b, hb⟩ : ∃ b, decide (x ∈ xs) = b := ⟨_, rfl⟩
  rw [hb]
  have HB := hid hb
  have Hn := hid hn
  have Hr := hid hr
  clear hb hn hr
  cases b
  all_goals
    go_enter Try.func95, Try.ntmps95
    go_wp2_with (go_at_call 140; refine (iIndex_any _ _ _ _ xs _ Hn.out hm Hr.out).mono ?_; rintro e w' ⟨r, rfl, hr, rfl⟩; rw [HB.out] at hr)
    go_ret
    exact ⟨rfl, rfl⟩


end Go.Proofs.Ytbimllpfbgjajaa
