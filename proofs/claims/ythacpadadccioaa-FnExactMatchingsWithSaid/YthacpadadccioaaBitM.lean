/- Marks as the digits of a number. No program is named here. -/
import Derived.Test.YthacpadadccioaaMtA
import Derived.Laws.BitsAllLaws
namespace Go.Proofs.Ythacpadadccioaa
open Go.RowKit

theorem i64_and_nat (a b : Nat) (ha : a < 9223372036854775808) (hb : b < 9223372036854775808) : bits .and .i64 (a : Int) (b : Int) = ((a &&& b : Nat) : Int) := by
  have hx : a &&& b < 2 ^ 63 := Nat.and_lt_two_pow _ (by omega)
  show IntKind.i64.wrap ((BitVec.ofInt 64 (a : Int) &&& BitVec.ofInt 64 (b : Int)).toNat : Int) = _
  rw [BitVec.toNat_and, ofInt_u64 a (by omega), ofInt_u64 b (by omega)]
  exact IntWalk.i64_in _ (by omega)
theorem i64_or_nat (a b : Nat) (ha : a < 9223372036854775808) (hb : b < 9223372036854775808) : bits .or .i64 (a : Int) (b : Int) = ((a ||| b : Nat) : Int) := by
  have hx : a ||| b < 2 ^ 63 := Nat.or_lt_two_pow (by omega) (by omega)
  show IntKind.i64.wrap ((BitVec.ofInt 64 (a : Int) ||| BitVec.ofInt 64 (b : Int)).toNat : Int) = _
  rw [BitVec.toNat_or, ofInt_u64 a (by omega), ofInt_u64 b (by omega)]
  exact IntWalk.i64_in _ (by omega)
theorem i64_bit (M k : Nat) (hM : M < 9223372036854775808) : bits .and .i64 ((M : Int) / 2 ^ k) 1 = ((M / 2 ^ k % 2 : Nat) : Int) := by
  have h1 : ((M : Int) / 2 ^ k) = ((M / 2 ^ k : Nat) : Int) := by
    rw [Int.natCast_ediv]
    congr 1
  have h2 : M / 2 ^ k ≤ M := Nat.div_le_self _ _
  rw [h1, show (1 : Int) = ((1 : Nat) : Int) from rfl, i64_and_nat _ _ (by omega) (by omega), nat_mask1]

/-- The digits of a number are the marks. -/
def BitM (M : Nat) (ms : List Bool) : Prop := M < 1048576 ∧ ∀ i, i < 20 → M.testBit i = eL ms i
theorem BitM.one {M k : Nat} {ms : List Bool} (h : BitM M ms) (hk : k < 20) : (bits .and .i64 ((M : Int) / 2 ^ k) 1 == 1) = eL ms k := by
  rw [i64_bit M k (by have := h.1; omega), ← h.2 k hk, Nat.testBit_eq_decide_div_mod_eq]
  rcases Nat.mod_two_eq_zero_or_one (M / 2 ^ k) with e | e <;> rw [e] <;> rfl
theorem BitM.zero {M k : Nat} {ms : List Bool} (h : BitM M ms) (hk : k < 20) : (bits .and .i64 ((M : Int) / 2 ^ k) 1 == 0) = !(eL ms k) := by
  rw [i64_bit M k (by have := h.1; omega), ← h.2 k hk, Nat.testBit_eq_decide_div_mod_eq]
  rcases Nat.mod_two_eq_zero_or_one (M / 2 ^ k) with e | e <;> rw [e] <;> rfl
theorem bitM_none : BitM 0 (List.replicate 20 false) := ⟨by omega, fun i hi => by
  rw [Nat.zero_testBit]
  unfold eL
  rw [List.getD_eq_getElem?_getD, List.getElem?_replicate, if_pos hi]
  rfl⟩
theorem pow_small {v : Nat} (hv : v < 20) : 2 ^ v < 1048576 := by
  have h := Nat.pow_lt_pow_right (a := 2) (by omega) hv
  simpa using h
theorem BitM.mark {M V U : Nat} {ms : List Bool} (h : BitM M ms) (hl : ms.length = 20) (hV : V < 20) (hU : U < 20) : BitM ((M ||| 2 ^ V) ||| 2 ^ U) (markV ms V U) := by
  have h1 := pow_small hV
  have h2 := pow_small hU
  refine ⟨Nat.or_lt_two_pow (n := 20) (Nat.or_lt_two_pow (n := 20) h.1 h1) h2, fun i hi => ?_⟩
  rw [Nat.testBit_or, Nat.testBit_or, h.2 i hi, Nat.testBit_two_pow, Nat.testBit_two_pow, markV_at (by omega) (by omega)]
  by_cases e1 : i = V
  · by_cases e2 : i = U
    · subst e1; simp
    · subst e1; simp
  · by_cases e2 : i = U
    · subst e2; simp
    · have e1' : ¬ V = i := fun e => e1 e.symm
      have e2' : ¬ U = i := fun e => e2 e.symm
      simp [e1, e2, e1', e2']
theorem mark_or {M V : Nat} (hM : M < 1048576) (hV : V < 20) : bits .or .i64 (M : Int) (2 ^ V) = ((M ||| 2 ^ V : Nat) : Int) := by
  have h1 := pow_small hV
  have h2 : ((2 : Int) ^ V) = ((2 ^ V : Nat) : Int) := by simp
  rw [h2, i64_or_nat _ _ (by omega) (by omega)]
theorem or_small {M V : Nat} (hM : M < 1048576) (hV : V < 20) : M ||| 2 ^ V < 1048576 := Nat.or_lt_two_pow (n := 20) hM (pow_small hV)
theorem wrap_pow {V : Nat} (hV : V < 20) : wrap64 (2 ^ V) = 2 ^ V := by
  have h1 := pow_small hV
  have h2 : ((2 : Int) ^ V) = ((2 ^ V : Nat) : Int) := by simp
  rw [h2]
  obtain ⟨p, hp⟩ : ∃ p, 2 ^ V = p := ⟨_, rfl⟩
  rw [hp] at h1 ⊢
  exact IntWalk.wrap64_in _ (by omega)

theorem shl_pow {V : Nat} (hV : V < 20) : IntKind.i64.wrap (2 ^ min (IntKind.u64.wrap (V : Int)).toNat 64) = 2 ^ V := by
  have h : IntKind.u64.wrap (V : Int) = (V : Int) := by rw [IntKind.wrap_u64]; omega
  rw [h, Int.toNat_natCast, Nat.min_eq_left (by omega), IntWalk.i64_left]
  exact wrap_pow hV

end Go.Proofs.Ythacpadadccioaa
