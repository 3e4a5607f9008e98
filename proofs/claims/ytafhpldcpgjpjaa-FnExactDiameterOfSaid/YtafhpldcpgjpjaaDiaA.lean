/- Diameters as plain values. No program is named here. -/
import Derived.Test.YtafhpldcpgjpjaaLead
namespace Go.Proofs.Ytafhpldcpgjpjaa
open Go.RowKit

def maxU (m : Int) (xs : List Int) : Nat → Int
  | 0 => m
  | k + 1 => max (maxU m xs k) (eI xs k)
theorem maxU_max (m x : Int) (xs : List Int) : ∀ k, max m (maxU x xs k) = maxU (max m x) xs k
  | 0 => rfl
  | k + 1 => by
    have := maxU_max m x xs k
    simp only [maxU]
    omega
theorem maxU_first (m : Int) (xs : List Int) : ∀ k, maxU (max m (eI xs 0)) xs (k + 1) = maxU m xs (k + 1)
  | 0 => by simp only [maxU]; omega
  | k + 1 => by
    have := maxU_first m xs k
    rw [maxU, this]
    rfl
theorem maxU_lt {m : Int} {xs : List Int} {k : Nat} (h : maxU m xs k < eI xs k) : maxU m xs (k + 1) = eI xs k := by simp only [maxU]; omega
theorem maxU_ge {m : Int} {xs : List Int} {k : Nat} (h : ¬ maxU m xs k < eI xs k) : maxU m xs (k + 1) = maxU m xs k := by simp only [maxU]; omega

def diaU (N : Nat) (es : List (Int × Int)) : Nat → Int
  | 0 => 0
  | a + 1 => maxU (diaU N es a) (farF N es (fun _ => true) a) N
def fDiameterOf (s : Int) (es : List (Int × Int)) : Int × Int := if IsG s es then (if numP s.toNat es = 1 then (diaU s.toNat es s.toNat, 0) else (0, 5)) else (0, 1)

theorem lead_zero (N : Nat) (es : List (Int × Int)) : leadB N es 0 = true := rfl
theorem numP_one {N : Nat} {es : List (Int × Int)} (he : EndsIn N es) (hN : 1 ≤ N) (h : numP N es = 1) : ∀ v, v < N → Conn es (0 : Nat) v := by
  have h0 : ∀ v, v < N → leadB N es v = true → v = 0 := fun v hv hl => by
    have hm0 : 0 ∈ leadU N es N := List.mem_filter.2 ⟨List.mem_range.2 (by omega), lead_zero N es⟩
    have hmv : v ∈ leadU N es N := List.mem_filter.2 ⟨List.mem_range.2 hv, hl⟩
    unfold numP at h
    obtain ⟨x, hx⟩ := List.length_eq_one_iff.1 h
    rw [hx] at hm0 hmv
    simp at hm0 hmv
    omega
  intro v
  induction v using Nat.strongRecOn with
  | _ v ih =>
    intro hv
    by_cases hl : leadB N es v = true
    · rw [h0 v hv hl]
      exact Conn.refl _ _
    · rw [leadB_iff he hv] at hl
      obtain ⟨u, h2, h3⟩ : ∃ u : Nat, u < v ∧ Conn es u v := Classical.byContradiction fun hn => hl (fun u hu hc => hn ⟨u, hu, hc⟩)
      exact (ih u h2 (by omega)).trans h3
theorem numP_not {N : Nat} {es : List (Int × Int)} (he : EndsIn N es) (hN : 1 ≤ N) (h : numP N es ≠ 1) : ∃ v, v < N ∧ ¬ Conn es (0 : Nat) v := Classical.byContradiction fun hn => by
  have hall : ∀ v, v < N → Conn es (0 : Nat) v := fun v hv => Classical.byContradiction fun hc => hn ⟨v, hv, hc⟩
  refine h ?_
  have key : ∀ k, 1 ≤ k → k ≤ N → leadU N es k = [0] := by
    intro k
    induction k with
    | zero => intro h1; omega
    | succ k ih =>
      intro _ hk
      rcases Nat.eq_zero_or_pos k with rfl | hk1
      · rw [leadU_yes (lead_zero N es)]; rfl
      · have hno : leadB N es k = false := by
          cases hb : leadB N es k
          · rfl
          · exact absurd (hall k (by omega)) ((leadB_iff he (by omega)).1 hb 0 hk1)
        rw [leadU_no hno, ih hk1 (by omega)]
  unfold numP
  rw [key N hN (Nat.le_refl _)]
  rfl
theorem far_all {N : Nat} {es : List (Int × Int)} (he : EndsIn N es) (hN : 1 ≤ N) (h : numP N es = 1) {a : Nat} (ha : a < N) : decide ((-1 : Int) ∈ farF N es (fun _ => true) a) = false := by
  refine decide_eq_false fun hm => ?_
  obtain ⟨j, hj, e⟩ := List.getElem_of_mem hm
  have hjN : j < N := by rw [← farF_len (keep := fun _ => true) he (a := (a : Int)) (by omega)]; exact hj
  have hc := (numP_one he hN h a ha).symm.trans (numP_one he hN h j hjN)
  exact (farF_conn (keep := fun _ => true) he (a := (a : Int)) (by omega) (fun _ _ => rfl) hjN).2 hc (by rw [eI_lt hj, e])
theorem far_some {N : Nat} {es : List (Int × Int)} (he : EndsIn N es) (hN : 1 ≤ N) (h : numP N es ≠ 1) : decide ((-1 : Int) ∈ farF N es (fun _ => true) (0 : Nat)) = true := by
  obtain ⟨v, hv, hc⟩ := numP_not he hN h
  refine decide_eq_true ?_
  have h1 : eI (farF N es (fun _ => true) (0 : Nat)) v = -1 := Classical.byContradiction fun hn => hc ((farF_conn (keep := fun _ => true) he (a := ((0 : Nat) : Int)) (by omega) (fun _ _ => rfl) hv).1 hn)
  rw [← h1]
  exact eI_mem (by rw [farF_len (keep := fun _ => true) he (a := ((0 : Nat) : Int)) (by omega)]; exact hv)

end Go.Proofs.Ytafhpldcpgjpjaa
