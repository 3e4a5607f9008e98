/- slices.BinarySearch in the list of the numbers from 1 on. -/
import Derived.Test.YtbimllpfbgjajaaLawsF
import Derived.Test.YtbimllpfbgjajaaImplF
namespace Go.Proofs.Ytbimllpfbgjajaa
open Go.RowKit

attribute [local go_sem] Oper.semAt_some

/-- The numbers from 1 to M. -/
def ascL (M : Nat) : List Int := (List.range M).map fun (i : Nat) => (i : Int) + 1
theorem ascL_len (M : Nat) : (ascL M).length = M := by simp [ascL]
theorem ascL_at {M i : Nat} (h : i < M) : eI (ascL M) i = (i : Int) + 1 := by
  rw [eI_lt (by rw [ascL_len]; exact h)]
  simp [ascL]
theorem ascL_push (M : Nat) : ascL (M + 1) = ascL M ++ [(M : Int) + 1] := by
  unfold ascL
  rw [List.range_succ, List.map_append]
  rfl

set_option maxRecDepth 100000 in
theorem isNaN2_any (x : Int) (w : World) : Calls Try.prog 145 #[.int .i64 x] w fun e w' => e = .returned (.bool false) ∧ w = w' := by
  have h : (x != x) = false := by simp
  go_enter Try.func145, Try.ntmps145
  go_wp2
  go_ret
  exact ⟨rfl, rfl⟩
set_option maxRecDepth 100000 in
theorem lessI_any (x y : Int) (w : World) : Calls Try.prog 144 #[.int .i64 x, .int .i64 y] w fun e w' => e = .returned (.bool (decide (x < y))) ∧ w = w' := by
  go_enter Try.func144, Try.ntmps144
  go_wp2_with (go_at_call 171; refine (isNaN_any _ _).mono ?_; rintro e w' ⟨rfl, rfl⟩)
  go_ret
  exact ⟨rfl, rfl⟩

set_option maxRecDepth 100000 in
set_option maxHeartbeats 8000000 in
theorem binS_any (g cap M Z : Nat) (w : World) (hM1 : 1 ≤ M) (hM : M ≤ 20) (ho : OwnI w g cap (ascL M)) (hZ : Z ≤ M) :
    Calls Try.prog 100 #[.slice (some ⟨g, 0, none⟩) M cap, .int .i64 Z] w fun e w' => e = .returned (.tuple #[.int .i64 ((Z - 1 : Nat) : Int), .bool (decide (0 < Z))]) ∧ w = w' := by
  have Ho := hid ho
  clear ho
  obtain ⟨r, hR⟩ : ∃ r : Bool, decide (0 < Z) = r := ⟨_, rfl⟩
  rw [hR]
  have HR := hid hR
  clear hR
  go_enter Try.func100, Try.ntmps100
  go_wp2
  go_loopw [7, 8] (fun u v wr => ∃ i j : Nat, i ≤ j ∧ j ≤ M ∧ u = .int .i64 i ∧ v = .int .i64 j ∧ i ≤ Z - 1 ∧ Z - 1 ≤ j ∧ w = wr) (fun u v _ => (intOf v).toNat - (intOf u).toNat)
  case atStart => exact ⟨0, M, Nat.zero_le _, Nat.le_refl _, rfl, rfl, Nat.zero_le _, by omega, rfl⟩
  case round =>
    obtain ⟨i, j, hij, hjM, rfl, rfl, hi, hj, rfl⟩ := hrel
    by_cases hlt : i < j
    · have hlt' : (i : Int) < (j : Int) := by omega
      obtain ⟨h, hh⟩ : ∃ h : Nat, (i + j) / 2 = h := ⟨_, rfl⟩
      have h1 : i ≤ h := by omega
      have h2 : h < j := by omega
      have h3 : h < M := by omega
      have h4 : (h : Int) < (M : Int) := by omega
      have e1 : IntKind.i64.wrap ((i : Int) + (j : Int)) = (i : Int) + (j : Int) := IntWalk.i64_in _ (by omega)
      have e2 : IntKind.u64.wrap ((i : Int) + (j : Int)) = (i : Int) + (j : Int) := by rw [IntKind.wrap_u64]; omega
      have e3 : ((i : Int) + (j : Int)) / 2 = (h : Int) := by omega
      have e4 : IntKind.i64.wrap (h : Int) = (h : Int) := IntWalk.i64_in _ (by omega)
      have hc := Ho.out.reads h (by rw [ascL_len]; exact h3)
      rw [Nat.zero_add, ascL_at h3] at hc
      have hgz := Ho.out.lt
      have Hh := hid hh
      clear hh
      by_cases hz : h + 1 < Z
      · have k1 : decide ((h : Int) + 1 < (Z : Int)) = true := decide_eq_true (by omega)
        go_wp2_with (go_at_call 144; refine (lessI_any _ _ _).mono ?_; rintro e w' ⟨rfl, rfl⟩)
        go_roundw
        case rel => exact ⟨h + 1, j, by omega, hjM, by go_num, rfl, by omega, hj, trivial⟩
        case measure => simp [intOf]; omega
      · have k1 : decide ((h : Int) + 1 < (Z : Int)) = false := decide_eq_false (by omega)
        go_wp2_with (go_at_call 144; refine (lessI_any _ _ _).mono ?_; rintro e w' ⟨rfl, rfl⟩)
        go_roundw
        case rel => exact ⟨i, h, by omega, by omega, rfl, rfl, hi, by omega, trivial⟩
        case measure => simp [intOf]; omega
    · obtain rfl : i = j := by omega
      obtain rfl : i = Z - 1 := by omega
      have hlM : Z - 1 < M := by omega
      have hlM' : ((Z - 1 : Nat) : Int) < (M : Int) := by omega
      have hc := Ho.out.reads (Z - 1) (by rw [ascL_len]; exact hlM)
      rw [Nat.zero_add, ascL_at hlM] at hc
      have hgz := Ho.out.lt
      have hnl : decide (((Z - 1 : Nat) : Int) < ((Z - 1 : Nat) : Int)) = false := by simp
      by_cases hz0 : Z = 0
      · have hR0 := HR.out
        subst hz0
        obtain rfl : r = false := hR0.symm
        clear hR0 HR
        go_wp2_with (go_at_call 145; refine (isNaN2_any _ _).mono ?_; rintro e w' ⟨rfl, rfl⟩)
        go_ret2
        exact ⟨rfl, rfl⟩
      · have hz1 : (((Z - 1 : Nat) : Int) + 1 == (Z : Int)) = true := by rw [beq_iff_eq]; omega
        obtain rfl : r = true := by rw [← HR.out]; exact decide_eq_true (by omega)
        go_wp2
        go_ret2
        exact ⟨rfl, rfl⟩

end Go.Proofs.Ytbimllpfbgjajaa
