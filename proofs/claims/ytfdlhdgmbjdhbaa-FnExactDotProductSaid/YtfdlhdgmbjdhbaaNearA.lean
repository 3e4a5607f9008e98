/- Edges that are near or close, rows of numbers that tell where a list has to differ, and lists that suit, plainly. No program is named here. -/
import Derived.Test.YtfdlhdgmbjdhbaaCutA
namespace Go.Proofs.Ytfdlhdgmbjdhbaa
open Go.RowKit

/-- Two edges, told by their ends, have a vertex in common. -/
def meetB (a b c d : Int) : Bool := a == c || a == d || b == c || b == d
def nearB (es : List (Int × Int)) (e f : Nat) : Bool := meetB (eA es e) (eB es e) (eA es f) (eB es f)
theorem meetB_comm (a b c d : Int) : meetB a b c d = meetB c d a b := by
  unfold meetB
  rw [Bool.eq_iff_iff]
  simp only [Bool.or_eq_true, beq_iff_eq]
  omega
theorem nearB_comm (es : List (Int × Int)) (e f : Nat) : nearB es e f = nearB es f e := meetB_comm _ _ _ _
theorem nearB_self (es : List (Int × Int)) (e : Nat) : nearB es e e = true := by
  unfold nearB meetB
  simp
/-- An edge is near to both. -/
def closeP (es : List (Int × Int)) (e f : Nat) : Prop := ∃ h, h < es.length ∧ nearB es h e = true ∧ nearB es h f = true
instance (es : List (Int × Int)) (e f : Nat) : Decidable (closeP es e f) := by unfold closeP; infer_instance
theorem close_near {es : List (Int × Int)} {e f : Nat} (he : e < es.length) (h : nearB es e f = true) : closeP es e f := ⟨e, he, nearB_self es e, h⟩

def fAreClose (s : Int) (es : List (Int × Int)) (e f : Int) : Bool × Int :=
  if IsG s es then (if ((0 ≤ e ∧ e < es.length) ∧ (0 ≤ f ∧ f < es.length)) ∧ e ≠ f then (decide (closeP es e.toNat f.toNat), 0) else (false, 2)) else (false, 1)

/-- The numbers ahead of i, of the first k ones, that i meets. -/
def rowU (M : Nat → Nat → Bool) (i k : Nat) : List Int := ((List.range k).filter (M i)).map fun (j : Nat) => (j : Int)
def rowL (M : Nat → Nat → Bool) (i : Nat) : List Int := rowU M i i
def rowsM (M : Nat → Nat → Bool) (n : Nat) : List (List Int) := (List.range n).map (rowL M)
theorem rowU_yes {M : Nat → Nat → Bool} {i k : Nat} (h : M i k = true) : rowU M i (k + 1) = rowU M i k ++ [(k : Int)] := by
  unfold rowU
  rw [List.range_succ, List.filter_append, List.map_append]
  simp [h]
theorem rowU_no {M : Nat → Nat → Bool} {i k : Nat} (h : M i k = false) : rowU M i (k + 1) = rowU M i k := by
  unfold rowU
  rw [List.range_succ, List.filter_append, List.map_append]
  simp [h]
theorem rowU_len (M : Nat → Nat → Bool) (i k : Nat) : (rowU M i k).length ≤ k := by
  unfold rowU
  rw [List.length_map]
  exact Nat.le_trans (List.length_filter_le _ _) (by simp)
theorem rowU_mem {M : Nat → Nat → Bool} {i k : Nat} {x : Int} : x ∈ rowU M i k ↔ ∃ j : Nat, j < k ∧ M i j = true ∧ x = j := by
  unfold rowU
  simp only [List.mem_map, List.mem_filter, List.mem_range]
  constructor
  · rintro ⟨j, ⟨h1, h2⟩, rfl⟩
    exact ⟨j, h1, h2, rfl⟩
  · rintro ⟨j, h1, h2, rfl⟩
    exact ⟨j, ⟨h1, h2⟩, rfl⟩
theorem rowU_cong {M M' : Nat → Nat → Bool} {i k : Nat} (h : ∀ j, j < k → M i j = M' i j) : rowU M i k = rowU M' i k := by
  unfold rowU
  rw [List.filter_congr (fun j hj => h j (List.mem_range.1 hj))]
theorem rowsM_len (M : Nat → Nat → Bool) (n : Nat) : (rowsM M n).length = n := by simp [rowsM]
theorem rowsM_cong {M M' : Nat → Nat → Bool} {n : Nat} (h : ∀ i j, j < i → i < n → M i j = M' i j) : rowsM M n = rowsM M' n := by
  unfold rowsM
  refine List.map_congr_left fun i hi => ?_
  exact rowU_cong fun j hj => h i j hj (List.mem_range.1 hi)

/-- Two numbers are apart on a circle of k numbers. -/
def apartB (k d x y : Int) : Bool := decide (d ≤ max x y - min x y) && decide (max x y - min x y ≤ k - d)
/-- A list has numbers below k, apart where M tells. -/
def suitP (k d : Int) (M : Nat → Nat → Bool) (xs : List Int) : Prop := (∀ i, i < xs.length → 0 ≤ eI xs i ∧ eI xs i < k) ∧ ∀ i, i < xs.length → ∀ j, j < i → M i j = true → apartB k d (eI xs i) (eI xs j) = true
instance (k d : Int) (M : Nat → Nat → Bool) (xs : List Int) : Decidable (suitP k d M xs) := by unfold suitP; infer_instance
/-- The number i of the list is apart from those ahead of it. -/
def fitB (k d : Int) (M : Nat → Nat → Bool) (xs : List Int) (i : Nat) (x : Int) : Bool := decide (∀ j, j < i → M i j = true → apartB k d x (eI xs j) = true)
theorem suit_fit {k d : Int} {M : Nat → Nat → Bool} {xs : List Int} : suitP k d M xs ↔ (∀ i, i < xs.length → 0 ≤ eI xs i ∧ eI xs i < k) ∧ ∀ i, i < xs.length → fitB k d M xs i (eI xs i) = true := by
  unfold suitP fitB
  simp only [decide_eq_true_eq]

def circOk (k d : Int) : Prop := (2 ≤ k ∧ k ≤ 14) ∧ (1 ≤ d ∧ d ≤ k / 2)
instance (k d : Int) : Decidable (circOk k d) := by unfold circOk; infer_instance
def fIsCircular (s : Int) (es : List (Int × Int)) (k d : Int) (xs : List Int) : Bool × Int :=
  if IsG s es then (if circOk k d ∧ xs.length = es.length then (decide (suitP k d (nearB es) xs), 0) else (false, 2)) else (false, 1)

/-- Numbers are just different where the gap is 1. -/
theorem apart_one {k x y : Int} (hx : 0 ≤ x ∧ x < k) (hy : 0 ≤ y ∧ y < k) : apartB k 1 x y = !(x == y) := by
  unfold apartB
  rw [Bool.eq_iff_iff]
  simp only [Bool.and_eq_true, decide_eq_true_eq, Bool.not_eq_true', beq_eq_false_iff_ne]
  omega

def closeB (es : List (Int × Int)) (e f : Nat) : Bool := decide (closeP es e f)
def fIsStrong (s : Int) (es : List (Int × Int)) (k : Int) (xs : List Int) : Bool × Int :=
  if IsG s es then (if (1 ≤ k ∧ k ≤ 20) ∧ xs.length = es.length then (decide (suitP k 1 (closeB es) xs), 0) else (false, 2)) else (false, 1)

/-- An edge joins two vertices. -/
def joinP (es : List (Int × Int)) (v w : Int) : Prop := ∃ e, e < es.length ∧ ((eA es e = v ∧ eB es e = w) ∨ (eA es e = w ∧ eB es e = v))
instance (es : List (Int × Int)) (v w : Int) : Decidable (joinP es v w) := by unfold joinP; infer_instance
/-- Things that have other numbers in a total colouring: the vertices, and behind them the edges. -/
def totB (N : Nat) (es : List (Int × Int)) (i j : Nat) : Bool :=
  if i < N then decide (joinP es i j) else if j < N then onE es j (i - N) else nearB es (i - N) (j - N)
def fIsTotal (s : Int) (es : List (Int × Int)) (k : Int) (xs : List Int) : Bool × Int :=
  if IsG s es then (if (1 ≤ k ∧ k ≤ 20) ∧ xs.length = s.toNat + es.length then (decide (suitP k 1 (totB s.toNat es) xs), 0) else (false, 2)) else (false, 1)

end Go.Proofs.Ytfdlhdgmbjdhbaa
