/- Marks while faces are gone round. No program is named here. -/
import Derived.Test.YtnimlipogphhmaaFacA
import Derived.Test.YtnimlipogphhmaaOnce
namespace Go.Proofs.Ytnimlipogphhmaa
open Go.RowKit

/-- The marks once the first k numbers are done, and while the orbit of k is gone along: its first j numbers are marked too. -/
def mFL (nx : Nat → Nat) (n k : Nat) : List Bool := (List.range n).map (metF nx n k)
def mjF (nx : Nat → Nat) (n k j : Nat) : List Bool := (List.range n).map fun x => metF nx n k x || decide (x ∈ (List.range j).map (itN nx k))
/-- The edges of the first j directed edges of an orbit. -/
def feL (nx : Nat → Nat) (k j : Nat) : List Int := (List.range j).map fun i => ((itN nx k i / 2 : Nat) : Int)
def faceL (nx : Nat → Nat) (n k : Nat) : List (List Int) := (facN nx n k).map fun O => O.map fun x => ((x / 2 : Nat) : Int)
section
variable {nx : Nat → Nat} {n k j : Nat}
theorem mFL_len : (mFL nx n k).length = n := by simp [mFL]
theorem mjF_len : (mjF nx n k j).length = n := by simp [mjF]
theorem mFL_at {x : Nat} (hx : x < n) : eL (mFL nx n k) x = metF nx n k x := by
  rw [eL_lt (by rw [mFL_len]; exact hx)]
  simp [mFL]
theorem mjF_at {x : Nat} (hx : x < n) : eL (mjF nx n k j) x = (metF nx n k x || decide (x ∈ (List.range j).map (itN nx k))) := by
  rw [eL_lt (by rw [mjF_len]; exact hx)]
  simp only [mjF, List.getElem_map, List.getElem_range]
theorem boolF_ext {xs ys : List Bool} (h1 : xs.length = n) (h2 : ys.length = n) (h : ∀ x, x < n → eL xs x = eL ys x) : xs = ys := by
  apply List.ext_getElem (by omega)
  intro i h3 h4
  have := h i (by omega)
  rwa [eL_lt h3, eL_lt h4] at this
theorem mFL_zero : mFL nx n 0 = List.replicate n false := boolF_ext mFL_len List.length_replicate fun x hx => by
  rw [mFL_at hx, eL_lt (by rw [List.length_replicate]; exact hx)]
  simp [metF]
theorem mjF_zero : mjF nx n k 0 = mFL nx n k := boolF_ext mjF_len mFL_len fun x hx => by rw [mjF_at hx, mFL_at hx]; simp
theorem mjF_step (h : PermN nx n) (hk : k < n) : (mjF nx n k j).set (itN nx k j) true = mjF nx n k (j + 1) := boolF_ext (by rw [List.length_set]; exact mjF_len) mjF_len fun x hx => by
  rw [eL_set (by rw [mjF_len]; exact it_lt h hk j), mjF_at hx, mjF_at hx, List.range_succ, List.map_append]
  by_cases e : x = itN nx k j
  · rw [if_pos e, decide_eq_true (by rw [e]; simp), Bool.or_true]
  · rw [if_neg e, show decide (x ∈ (List.range j).map (itN nx k) ++ [j].map (itN nx k)) = decide (x ∈ (List.range j).map (itN nx k)) from decide_eq_decide.2 ⟨fun hh => (List.mem_append.1 hh).elim id (fun h2 => absurd (by simpa using h2) e), fun hh => List.mem_append_left _ hh⟩]
theorem mjF_end : mjF nx n k (perN nx n k) = mFL nx n (k + 1) := boolF_ext mjF_len mFL_len fun x hx => by
  rw [mjF_at hx, mFL_at hx, metF_succ]
  rfl
theorem mFL_old (h : PermN nx n) (hk : k < n) (hm : metF nx n k k = true) : mFL nx n (k + 1) = mFL nx n k := boolF_ext mFL_len mFL_len fun x hx => by rw [mFL_at hx, mFL_at hx, metF_old h hk hm]
theorem mjF_now (h : PermN nx n) (hk : k < n) (hm : metF nx n k k = false) (hj : j ≤ perN nx n k) : eL (mjF nx n k j) (itN nx k j) = decide (j = perN nx n k) := by
  have hp := per_spec h hk
  rw [mjF_at (it_lt h hk j), metF_new h hk hm ((orb_iff h hk _).2 ⟨j, rfl⟩), Bool.false_or]
  by_cases e : j = perN nx n k
  · rw [decide_eq_true e]
    refine decide_eq_true ?_
    rw [e, hp.2.2.1]
    exact List.mem_map.2 ⟨0, List.mem_range.2 (by omega), rfl⟩
  · rw [decide_eq_false e]
    refine decide_eq_false fun hin => ?_
    obtain ⟨i, hi, e2⟩ := List.mem_map.1 hin
    have hi := List.mem_range.1 hi
    exact it_diff h hk hi (by omega) e2
theorem feL_len : (feL nx k j).length = j := by simp [feL]
theorem feL_push : feL nx k (j + 1) = feL nx k j ++ [((itN nx k j / 2 : Nat) : Int)] := by
  unfold feL
  rw [List.range_succ, List.map_append]
  rfl
theorem feL_end : feL nx k (perN nx n k) = (orbN nx n k).map fun x => ((x / 2 : Nat) : Int) := by
  unfold feL orbN
  rw [List.map_map]
  rfl
theorem faceL_yes (hm : metF nx n k k = false) : faceL nx n (k + 1) = faceL nx n k ++ [feL nx k (perN nx n k)] := by
  unfold faceL
  rw [facN_yes hm, List.map_append, feL_end]
  rfl
theorem faceL_no (hm : metF nx n k k = true) : faceL nx n (k + 1) = faceL nx n k := by unfold faceL; rw [facN_no hm]
theorem faceL_len (nx : Nat → Nat) (n k : Nat) : (faceL nx n k).length ≤ k := by unfold faceL; rw [List.length_map]; exact facN_len nx n k
end

end Go.Proofs.Ytnimlipogphhmaa
