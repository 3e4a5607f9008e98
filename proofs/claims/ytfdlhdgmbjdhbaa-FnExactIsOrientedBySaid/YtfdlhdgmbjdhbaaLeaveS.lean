/- EdgesLeaving in the model. -/
import Derived.Test.YtfdlhdgmbjdhbaaCutA
import Derived.Test.YtfdlhdgmbjdhbaaSpecAt
import Derived.Test.YtfdlhdgmbjdhbaaSpecD

/- Edges that leave a set of vertices, as plain lists. No program is named here. -/
namespace Go.Proofs.Ytfdlhdgmbjdhbaa
open Go.RowKit

/-- The edge e has just one end in a set. -/
def leaveB (es : List (Int × Int)) (xs : List Int) (e : Nat) : Bool := decide (eA es e ∈ xs) != decide (eB es e ∈ xs)
def leaveU (es : List (Int × Int)) (xs : List Int) (k : Nat) : List Int := ((List.range k).filter (leaveB es xs)).map fun (i : Nat) => (i : Int)
theorem leaveU_yes {es : List (Int × Int)} {xs : List Int} {k : Nat} (h : leaveB es xs k = true) : leaveU es xs (k + 1) = leaveU es xs k ++ [(k : Int)] := by
  unfold leaveU
  rw [List.range_succ, List.filter_append, List.map_append]
  simp [h]
theorem leaveU_no {es : List (Int × Int)} {xs : List Int} {k : Nat} (h : leaveB es xs k = false) : leaveU es xs (k + 1) = leaveU es xs k := by
  unfold leaveU
  rw [List.range_succ, List.filter_append, List.map_append]
  simp [h]
theorem leaveU_len (es : List (Int × Int)) (xs : List Int) (k : Nat) : (leaveU es xs k).length ≤ k := by
  unfold leaveU
  rw [List.length_map]
  exact Nat.le_trans (List.length_filter_le _ _) (by simp)

def fEdgesLeaving (s : Int) (es : List (Int × Int)) (xs : List Int) : List Int × Int := if IsG s es then (if isSetP s xs then (leaveU es xs es.length, 0) else ([], 2)) else ([], 1)
theorem fEdgesLeaving_len (s : Int) (es : List (Int × Int)) (xs : List Int) (h : es.length ≤ 1048576) (_ : xs.length ≤ 1048576) : (fEdgesLeaving s es xs).1.length ≤ 1048576 := by
  unfold fEdgesLeaving
  split
  · split
    · exact Nat.le_trans (leaveU_len es xs es.length) h
    · simp
  · simp

end Go.Proofs.Ytfdlhdgmbjdhbaa

namespace Go.Proofs.Ytfdlhdgmbjdhbaa
open Go.RowKit

theorem infoBl : (Try.prog.info? 4).map (fun i => (i.zero, i.size, i.bytes)) = some (some (.bool false), 1, 1) := by kernel_rfl
theorem row_drewN {w : World} {n B m : Nat} {t : TypeId} {sz : Nat} {v : Value} {xs : List Value} (h : w.ownsRow B t sz v m xs) : (w.drewN n).ownsRow B t sz v m xs := h
theorem grown_drewN {w w' : World} {n : Nat} {row : Option Nat} (h : (w.drewN n).grownBy w' row) : ∀ k, k < w.heap.size → some k ≠ row → w'.heap[k]? = w.heap[k]? := fun k hk hn => h.block k hk hn

def setCode (N : Int) (xs : List Int) : Int := if isSetP N xs then 0 else 2

set_option maxRecDepth 100000 in
set_option maxHeartbeats 4000000 in
theorem sSet_any (q : Option Addr) (k c N : Nat) (xs : List Int) (w : World) (hN1 : 1 ≤ N) (hN2 : N ≤ 30) (hx : xs.length = k) (hk9 : k ≤ 1048576) (hr : SeesI w q xs) :
    Calls Try.prog 89 #[.slice q k c, .int .i64 N] w fun e w' => e = .returned (.int .i64 (setCode N xs)) ∧ Below w.heap.size w w' := by
  have Hx := hid hx
  have Hr := hid hr
  have hk99 : k ≤ 9223372036854775807 := by omega
  obtain ⟨r, hR⟩ : ∃ r, r = setCode N xs := ⟨_, rfl⟩
  rw [← hR]
  have HR := hid hR
  clear hx hr hR
  go_enter Try.func89, Try.ntmps89
  go_wp2
  go_loopw [5] (fun i wr => ∃ i' : Nat, i' ≤ k ∧ i = .int .i64 i' ∧ Hid (∀ j, j < i' → okSet N xs j) ∧ Hid (Below w.heap.size w wr)) (fun i _ => k - (intOf i).toNat)
  case atStart => exact ⟨0, Nat.zero_le _, rfl, hid (fun i hi => by omega), hid (Below.refl _ _)⟩
  case round =>
    obtain ⟨i, hi, rfl, hD, hB⟩ := hrel
    by_cases hlt : i < k
    · obtain ⟨sb, so, rfl, hrd⟩ : ∃ sb so, q = some ⟨sb, so, none⟩ ∧ ReadsI w sb so xs := by
        rcases Hr.out with h | h
        · have := Hx.out; rw [h] at this; simp at this; omega
        · exact h
      have HRD := hid (hrd.on hB.out)
      have hsb := HRD.out.lt (by have := Hx.out; omega)
      have hc1 := HRD.out i (by have := Hx.out; omega)
      obtain ⟨x, hx⟩ : ∃ x, eI xs i = x := ⟨_, rfl⟩
      rw [hx] at hc1
      have HX := hid hx
      clear hx hrd
      obtain ⟨wo, rfl⟩ : ∃ wo : World, wo = wr := ⟨_, rfl⟩
      by_cases g1 : 0 ≤ x ∧ x ≤ (N : Int) - 1
      · have G1 := hid g1
        clear g1
        by_cases i1 : i = 0
        · subst i1
          rw [Nat.add_zero] at hc1
          go_wp2
          go_quiet ((go_at_call 55; exact quiet_same (sIn_yes _ _ _ _ G1.out)))
          go_wp2
          go_roundw
          case rel =>
            refine ⟨1, by omega, rfl, hid (fun j hj => ?_), hid (bdn.mpr hB.out)⟩
            obtain rfl : j = 0 := by omega
            exact ⟨by rw [HX.out]; have := G1.out; omega, fun h => by omega⟩
          case measure => simp [intOf]; omega
        · obtain ⟨j, rfl⟩ : ∃ j, i = j + 1 := ⟨i - 1, by omega⟩
          have hc3 := HRD.out j (by have := Hx.out; omega)
          obtain ⟨y, hy⟩ : ∃ y, eI xs j = y := ⟨_, rfl⟩
          rw [hy] at hc3
          have HY := hid hy
          have hpos : decide ((0 : Int) < (j : Int) + 1) = true := by simp
          have e1 : (0 : Int) ≤ (j : Int) + 1 := by omega
          have e2 : (j : Int) + 1 < (k : Int) := by omega
          have e3 : ((j : Int) + 1).toNat = j + 1 := by omega
          have e4 : j < k := by omega
          have e5 : IntKind.i64.wrap (j : Int) = (j : Int) := IntWalk.i64_in _ (by omega)
          clear i1 hy
          by_cases g2 : x ≤ y
          · have g2' : decide (x ≤ y) = true := by simpa using g2
            have G2 := hid g2
            clear g2
            go_wp2
            go_quiet ((go_at_call 55; exact quiet_same (sIn_yes _ _ _ _ G1.out)))
            go_wp2
            go_ret
            refine ⟨?_, by simp only [bdn]; exact hB.out⟩
            rw [HR.out, setCode, if_neg (fun h => by have h1 := (h (j + 1) (by have := Hx.out; omega)).2 (by omega); rw [HX.out, Nat.add_sub_cancel, HY.out] at h1; have := G2.out; omega)]
            rfl
          · have g2' : decide (x ≤ y) = false := by simpa using g2
            have G2 := hid g2
            clear g2
            go_wp2
            go_quiet ((go_at_call 55; exact quiet_same (sIn_yes _ _ _ _ G1.out)))
            go_wp2
            go_roundw
            case rel =>
              refine ⟨j + 1 + 1, by omega, by go_num, hid (fun j' hj => ?_), hid (bdn.mpr hB.out)⟩
              rcases Nat.lt_or_ge j' (j + 1) with h | h
              · exact hD.out j' h
              · obtain rfl : j' = j + 1 := by omega
                exact ⟨by rw [HX.out]; have := G1.out; omega, fun _ => by rw [HX.out, Nat.add_sub_cancel, HY.out]; have := G2.out; omega⟩
            case measure => simp [intOf]; omega
      · have g1' : x < 0 ∨ (N : Int) - 1 < x := by omega
        have G1 := hid g1'
        clear g1 g1'
        go_wp2
        go_quiet ((go_at_call 55; exact quiet_same (sIn_no _ _ _ _ G1.out)))
        go_wp2
        go_ret
        refine ⟨?_, by simp only [bdn]; exact hB.out⟩
        rw [HR.out, setCode, if_neg (fun h => by have h1 := (h i (by have := Hx.out; omega)).1; rw [HX.out] at h1; have := G1.out; omega)]
        rfl
    · obtain rfl : i = k := by omega
      go_wp2
      go_ret
      refine ⟨?_, hB.out⟩
      rw [HR.out, setCode, if_pos (show isSetP N xs from fun j hj => hD.out j (by have := Hx.out; omega))]
      rfl






end Go.Proofs.Ytfdlhdgmbjdhbaa
