/- Sets of numbers in the program: slices.Contains, and whether a list is a set. -/
import Derived.Test.YtfdlhdgmbjdhbaaImplB
import Derived.Test.YtfdlhdgmbjdhbaaCutA
namespace Go.Proofs.Ytfdlhdgmbjdhbaa
open Go.RowKit

/-- What slices.Index hands back tells whether a number is in the list. -/
def IdxPost (xs : List Int) (x : Int) (w : World) (e : Ending) (w' : World) : Prop := ∃ r : Int, e = .returned (.int .i64 r) ∧ decide (0 ≤ r) = decide (x ∈ xs) ∧ w = w'

theorem not_in_take {xs : List Int} {x : Int} {n : Nat} (hl : xs.length = n) (h : ∀ j, j < n → eI xs j ≠ x) : x ∉ xs := fun hm => by
  obtain ⟨j, hj, e⟩ := List.getElem_of_mem hm
  exact h j (by omega) (by rw [eI_lt hj, e])
theorem in_at {xs : List Int} {x : Int} {k : Nat} (hk : k < xs.length) (h : eI xs k = x) : x ∈ xs := by
  rw [← h, eI_lt hk]
  exact List.getElem_mem hk

set_option maxRecDepth 100000 in
set_option maxHeartbeats 2000000 in
theorem iIndex_any (q : Option Addr) (n c : Nat) (x : Int) (xs : List Int) (w : World) (hn : xs.length = n) (hm : n ≤ 1048576) (hr : SeesI w q xs) :
    Calls Try.prog 99 #[.slice q n c, .int .i64 x] w (IdxPost xs x w) := by
  have Hn := hid hn
  have Hr := hid hr
  have hm9 : n ≤ 9223372036854775807 := by omega
  clear hn hr
  go_enter Try.func99, Try.ntmps99
  go_wp2
  go_loop [8] (fun i => ∃ k : Nat, k ≤ n ∧ i = .int .i64 k ∧ Hid (∀ j, j < k → eI xs j ≠ x)) (fun i => n - (intOf i).toNat)
  case atStart => exact ⟨0, Nat.zero_le _, rfl, hid (fun j hj => by omega)⟩
  case round =>
    obtain ⟨k, hk, rfl, hE⟩ := hrel
    by_cases hlt : k < n
    · obtain ⟨b, off, rfl, hrd⟩ : ∃ b off, q = some ⟨b, off, none⟩ ∧ ReadsI w b off xs := by
        rcases Hr.out with h | h
        · have := Hn.out; rw [h] at this; simp at this; omega
        · exact h
      have h1 := hrd k (by have := Hn.out; omega)
      obtain ⟨y, hy⟩ : ∃ y, eI xs k = y := ⟨_, rfl⟩
      rw [hy] at h1
      have HY := hid hy
      clear hrd hy
      by_cases hxy : x = y
      · have g1 : (x == y) = true := by simpa using hxy
        have HXY := hid hxy
        clear hxy
        go_wp2
        go_ret
        exact ⟨k, rfl, by rw [decide_eq_true (show (0 : Int) ≤ (k : Int) by omega), decide_eq_true (in_at (k := k) (by have := Hn.out; omega) (HY.out.trans HXY.out.symm))], rfl⟩
      · have g1 : (x == y) = false := by simpa using hxy
        have HXY := hid hxy
        clear hxy
        go_wp2
        go_round
        case rel =>
          refine ⟨k + 1, by omega, by go_num, hid (fun j hj => ?_)⟩
          rcases Nat.lt_or_ge j k with h | h
          · exact hE.out j h
          · obtain rfl : j = k := by omega
            exact fun e => HXY.out (by rw [← HY.out, e])
        case measure => simp [intOf]; omega
    · obtain rfl : k = n := by omega
      go_wp2
      go_ret
      exact ⟨-1, rfl, by rw [decide_eq_false (not_in_take Hn.out hE.out)]; rfl, rfl⟩

set_option maxRecDepth 100000 in
set_option maxHeartbeats 2000000 in
theorem iContains_any (q : Option Addr) (n c : Nat) (x : Int) (xs : List Int) (w : World) (hn : xs.length = n) (hm : n ≤ 1048576) (hr : SeesI w q xs) :
    Calls Try.prog 72 #[.slice q n c, .int .i64 x] w fun e w' => e = .returned (.bool (decide (x ∈ xs))) ∧ w = w' := by
  obtain ⟨b, hb⟩ : ∃ b, decide (x ∈ xs) = b := ⟨_, rfl⟩
  rw [hb]
  have HB := hid hb
  have Hn := hid hn
  have Hr := hid hr
  clear hb hn hr
  cases b
  all_goals
    go_enter Try.func72, Try.ntmps72
    go_wp2_with (go_at_call 99; refine (iIndex_any _ _ _ _ xs _ Hn.out hm Hr.out).mono ?_; rintro e w' ⟨r, rfl, hr, rfl⟩; rw [HB.out] at hr)
    go_ret
    exact ⟨rfl, rfl⟩

set_option maxRecDepth 100000 in
set_option maxHeartbeats 4000000 in
theorem iSet_any (q : Option Addr) (k c : Nat) (N : Nat) (xs : List Int) (w : World) (hx : xs.length = k) (hk9 : k ≤ 1048576) (hr : SeesI w q xs) :
    Calls Try.prog 91 #[.slice q k c, .int .i64 N] w fun e w' => e = .returned (.bool (decide (isSetP N xs))) ∧ w = w' := by
  have Hx := hid hx
  have Hr := hid hr
  have hk99 : k ≤ 9223372036854775807 := by omega
  obtain ⟨r, hR⟩ : ∃ r, r = decide (isSetP N xs) := ⟨_, rfl⟩
  rw [← hR]
  have HR := hid hR
  clear hx hr hR
  go_enter Try.func91, Try.ntmps91
  go_wp2
  go_loop [9] (fun i => ∃ i' : Nat, i' ≤ k ∧ i = .int .i64 i' ∧ Hid (∀ j, j < i' → okSet N xs j)) (fun i => k - (intOf i).toNat)
  case atStart => exact ⟨0, Nat.zero_le _, rfl, hid (fun i hi => by omega)⟩
  case round =>
    obtain ⟨i, hi, rfl, hD⟩ := hrel
    by_cases hlt : i < k
    · obtain ⟨sb, so, rfl, hrd⟩ : ∃ sb so, q = some ⟨sb, so, none⟩ ∧ ReadsI w sb so xs := by
        rcases Hr.out with h | h
        · have := Hx.out; rw [h] at this; simp at this; omega
        · exact h
      have HRD := hid hrd
      have hc1 := HRD.out i (by have := Hx.out; omega)
      obtain ⟨x, hx⟩ : ∃ x, eI xs i = x := ⟨_, rfl⟩
      rw [hx] at hc1
      have HX := hid hx
      clear hx hrd
      by_cases g1 : 0 ≤ x ∧ x < (N : Int)
      · have G1 := hid g1
        clear g1
        by_cases i1 : i = 0
        · subst i1
          rw [Nat.add_zero] at hc1
          go_wp2_with (go_at_call 71; refine (iBelow_yes _ _ _ G1.out).mono ?_; rintro e w' ⟨rfl, rfl⟩)
          go_round
          case rel =>
            refine ⟨1, by omega, rfl, hid (fun j hj => ?_)⟩
            obtain rfl : j = 0 := by omega
            exact ⟨by rw [HX.out]; exact G1.out, fun h => by omega⟩
          case measure => simp [intOf]; omega
        · obtain ⟨j, rfl⟩ : ∃ j, i = j + 1 := ⟨i - 1, by omega⟩
          have hc3 := HRD.out j (by have := Hx.out; omega)
          obtain ⟨y, hy⟩ : ∃ y, eI xs j = y := ⟨_, rfl⟩
          rw [hy] at hc3
          have HY := hid hy
          have hpos : decide ((0 : Int) < (j : Int) + 1) = true := by simp
          have e1 : (0 : Int) ≤ (j : Int) + 1 := by omega
          have e2 : (j : Int) + 1 < (k : Int) := by omega
          have e3 : ((j : Int) + 1).toNat = j + 1 := by omega
          have e4 : j < k := by omega
          have e5 : IntKind.i64.wrap (j : Int) = (j : Int) := IntWalk.i64_in _ (by omega)
          clear i1 hy
          by_cases g2 : x ≤ y
          · have g2' : decide (x ≤ y) = true := by simpa using g2
            have G2 := hid g2
            clear g2
            go_wp2_with (go_at_call 71; refine (iBelow_yes _ _ _ G1.out).mono ?_; rintro e w' ⟨rfl, rfl⟩)
            go_ret
            refine ⟨?_, rfl⟩
            rw [HR.out, decide_eq_false (fun h => by have h1 := (h (j + 1) (by have := Hx.out; omega)).2 (by omega); rw [HX.out, Nat.add_sub_cancel, HY.out] at h1; have := G2.out; omega)]
            rfl
          · have g2' : decide (x ≤ y) = false := by simpa using g2
            have G2 := hid g2
            clear g2
            go_wp2_with (go_at_call 71; refine (iBelow_yes _ _ _ G1.out).mono ?_; rintro e w' ⟨rfl, rfl⟩)
            go_round
            case rel =>
              refine ⟨j + 1 + 1, by omega, by go_num, hid (fun j' hj => ?_)⟩
              rcases Nat.lt_or_ge j' (j + 1) with h | h
              · exact hD.out j' h
              · obtain rfl : j' = j + 1 := by omega
                exact ⟨by rw [HX.out]; exact G1.out, fun _ => by rw [HX.out, Nat.add_sub_cancel, HY.out]; have := G2.out; omega⟩
            case measure => simp [intOf]; omega
      · have G1 := hid g1
        clear g1
        go_wp2_with (go_at_call 71; refine (iBelow_no _ _ _ G1.out).mono ?_; rintro e w' ⟨rfl, rfl⟩)
        go_ret
        refine ⟨?_, rfl⟩
        rw [HR.out, decide_eq_false (fun h => by have h1 := (h i (by have := Hx.out; omega)).1; rw [HX.out] at h1; exact G1.out h1)]
        rfl
    · obtain rfl : i = k := by omega
      go_wp2
      go_ret
      refine ⟨?_, rfl⟩
      rw [HR.out, decide_eq_true (show isSetP N xs from fun j hj => hD.out j (by have := Hx.out; omega))]
      rfl

end Go.Proofs.Ytfdlhdgmbjdhbaa
