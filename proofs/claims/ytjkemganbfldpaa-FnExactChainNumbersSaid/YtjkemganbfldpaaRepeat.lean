/- slices.Repeat of one number, at most twenty times. -/
import Derived.Test.YtjkemganbfldpaaLawsD
import Derived.Laws.CopyOwn
import Derived.Laws.Bits64b
import Derived.Deep.RegionLaw
namespace Go.Proofs.Ytjkemganbfldpaa
open Go.RowKit

theorem mask20 (n : Nat) (h : n ≤ 20) : bits .and .u64 (n : Int) 4294967295 = (n : Int) := by
  have h1 := bits_and_u64_nat n 4294967295 (by omega) (by omega)
  have e : n &&& 4294967295 = n % 4294967296 := Nat.and_two_pow_sub_one_eq_mod n 32
  rw [e, Nat.mod_eq_of_lt (by omega)] at h1
  exact h1
theorem mask1 : bits .and .u64 1 4294967295 = 1 := mask20 1 (by omega)
theorem div20 (n : Nat) (h : n ≤ 20) : (n : Int) / 4294967296 = 0 := by omega
theorem wrap20 (n : Nat) (h : n ≤ 20) : IntKind.u64.wrap (n : Int) = (n : Int) := by rw [IntKind.wrap_u64]; omega



theorem rep_splice {cur : List Value} {k m N : Nat} {v : Value} (hl : cur.length = N) (hk : k + m ≤ N) (h : ∀ i, i < k → cur[i]? = some v) :
    (splice cur k (List.replicate m v)).length = N ∧ ∀ i, i < k + m → (splice cur k (List.replicate m v))[i]? = some v := by
  refine ⟨by rw [length_splice _ _ _ (by rw [List.length_replicate]; omega), hl], fun i hi => ?_⟩
  unfold splice
  by_cases h1 : i < k
  · rw [List.getElem?_append_left (by rw [List.length_take]; omega), List.getElem?_take, if_pos h1]
    exact h i h1
  · rw [List.getElem?_append_right (by rw [List.length_take]; omega), List.length_take, List.getElem?_append_left (by rw [List.length_replicate]; omega), List.getElem?_replicate, if_pos (by omega)]

theorem addr_zero (g j : Nat) : (Addr.add ⟨g, 0, none⟩ j) = ⟨g, j, none⟩ := by cases j <;> simp [Addr.add]

/-- The block's first k cells hold the number x. -/
def RepI (w : World) (g N : Nat) (x : Int) (k : Nat) : Prop := ∃ cur : List Value, w.heap[g]? = some (.cells cur.toArray 2 (0, 0)) ∧ cur.length = N ∧ ∀ i, i < k → cur[i]? = some (.int .i64 x)
theorem repI_own {w : World} {g N : Nat} {x : Int} (h : RepI w g N x N) (hN : N ≤ 20) : OwnI w g N (List.replicate N x) := by
  obtain ⟨cur, h1, h2, h3⟩ := h
  refine ⟨_, h1, by simpa using h2, by simp, by unfold maxLen; omega, fun i hi => ?_⟩
  rw [List.length_replicate] at hi
  rw [eI_lt (by simpa using hi)]
  simpa using h3 i hi


end Go.Proofs.Ytjkemganbfldpaa
