/- Cut numbers as plain lists; strictly ascending lists. No program is named here. -/
import Derived.Test.YtaafbdpdpndplaaCols
namespace Go.Proofs.Ytaafbdpdpndplaa
open Go.RowKit

/-- The number i stands well in a strictly ascending list of numbers below n. -/
def okSet (n : Int) (xs : List Int) (i : Nat) : Prop := (0 ≤ eI xs i ∧ eI xs i < n) ∧ (0 < i → eI xs (i - 1) < eI xs i)
instance (n : Int) (xs : List Int) (i : Nat) : Decidable (okSet n xs i) := by unfold okSet; infer_instance
def isSetP (n : Int) (xs : List Int) : Prop := ∀ i, i < xs.length → okSet n xs i
instance (n : Int) (xs : List Int) : Decidable (isSetP n xs) := by unfold isSetP; infer_instance

/-- The edge e leaves a set and has a colour. -/
def cutB (es : List (Int × Int)) (c xs : List Int) (col : Nat) (e : Nat) : Bool := (decide (eA es e ∈ xs) != decide (eB es e ∈ xs)) && eI c e == (col : Int)
def cutN (es : List (Int × Int)) (c xs : List Int) (col k : Nat) : Int := (((List.range k).filter (cutB es c xs col)).length : Int)
def cutL (es : List (Int × Int)) (c xs : List Int) (k : Nat) : List Int := [cutN es c xs 0 k, cutN es c xs 1 k, cutN es c xs 2 k]

theorem cutN_succ (es : List (Int × Int)) (c xs : List Int) (col k : Nat) : cutN es c xs col (k + 1) = cutN es c xs col k + if cutB es c xs col k = true then 1 else 0 := by
  unfold cutN
  rw [List.range_succ, List.filter_append, List.length_append]
  by_cases h : cutB es c xs col k = true
  · simp [h]
  · simp [h]
theorem cutN_le (es : List (Int × Int)) (c xs : List Int) (col k : Nat) : 0 ≤ cutN es c xs col k ∧ cutN es c xs col k ≤ k := by
  unfold cutN
  have := List.length_filter_le (cutB es c xs col) (List.range k)
  rw [List.length_range] at this
  omega
theorem cutL_at {es : List (Int × Int)} {c xs : List Int} {k C : Nat} (hC : C < 3) : eI (cutL es c xs k) C = cutN es c xs C k := by
  rcases (by omega : C = 0 ∨ C = 1 ∨ C = 2) with rfl | rfl | rfl <;> rfl
theorem cutL_no {es : List (Int × Int)} {c xs : List Int} {k : Nat} (h : (decide (eA es k ∈ xs) != decide (eB es k ∈ xs)) = false) : cutL es c xs (k + 1) = cutL es c xs k := by
  unfold cutL
  rw [cutN_succ, cutN_succ, cutN_succ]
  simp [cutB, h]
theorem cutL_yes {es : List (Int × Int)} {c xs : List Int} {k C : Nat} (h : (decide (eA es k ∈ xs) != decide (eB es k ∈ xs)) = true) (hC : C < 3) (hc : eI c k = C) :
    cutL es c xs (k + 1) = (cutL es c xs k).set C (eI (cutL es c xs k) C + 1) := by
  rw [cutL_at hC]
  unfold cutL
  rw [cutN_succ, cutN_succ, cutN_succ]
  rcases (by omega : C = 0 ∨ C = 1 ∨ C = 2) with rfl | rfl | rfl <;> simp [cutB, h, hc]
theorem cutL_zero (es : List (Int × Int)) (c xs : List Int) : cutL es c xs 0 = [0, 0, 0] := rfl
theorem cutL_length (es : List (Int × Int)) (c xs : List Int) (k : Nat) : (cutL es c xs k).length = 3 := rfl

def fCutNumbers (s : Int) (es : List (Int × Int)) (c xs : List Int) : List Int × Int := if IsG s es then (if isColP es c then (if isSetP s xs then (cutL es c xs es.length, 0) else ([], 2)) else ([], 2)) else ([], 1)
theorem fCutNumbers_len (s : Int) (es : List (Int × Int)) (c xs : List Int) (_ : es.length ≤ 1048576) (_ : c.length ≤ 1048576) (_ : xs.length ≤ 1048576) : (fCutNumbers s es c xs).1.length ≤ 1048576 := by
  unfold fCutNumbers
  split
  · split
    · split
      · simp [cutL]
      · simp
    · simp
  · simp

/-- A list's marks: which numbers below N are in it. -/
theorem set_marks {xs : List Int} {ms : List Bool} {N V : Nat} (h : ∀ v, v < N → eL ms v = decide ((v : Int) ∈ xs.take xs.length)) (hV : V < N) : eL ms V = decide ((V : Int) ∈ xs) := by
  rw [h V hV, List.take_length]

end Go.Proofs.Ytaafbdpdpndplaa
