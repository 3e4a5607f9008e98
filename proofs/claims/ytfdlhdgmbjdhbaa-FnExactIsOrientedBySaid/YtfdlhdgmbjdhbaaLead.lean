/- Leaders: the least vertices of the parts, as plain lists. No program is named here. -/
import Derived.Test.YtfdlhdgmbjdhbaaFar
namespace Go.Proofs.Ytfdlhdgmbjdhbaa
open Go.RowKit

def sumL (xs : List Int) : Nat := (xs.map Int.toNat).sum
theorem sumL_set : ∀ (xs : List Int) (k : Nat) (x : Int), k < xs.length → sumL (xs.set k x) + (eI xs k).toNat = sumL xs + x.toNat
  | [], k, x, h => by simp at h
  | y :: xs, 0, x, _ => by simp [sumL, eI]; omega
  | y :: xs, k + 1, x, h => by
    have := sumL_set xs k x (by simpa using h)
    simp only [sumL, List.set_cons_succ, List.map_cons, List.sum_cons] at this ⊢
    show _ + (eI xs k).toNat = _
    omega

/-- What the search for leaders keeps. -/
structure LeadI (N : Nat) (es : List (Int × Int)) (xs : List Int) : Prop where
  len : xs.length = N
  at_ : ∀ v, v < N → 0 ≤ eI xs v ∧ eI xs v ≤ v ∧ Conn es v (eI xs v)

theorem leadI_zero (N : Nat) (es : List (Int × Int)) : LeadI N es (marksI 0 N) :=
  ⟨marksI_length 0 N, fun v hv => by rw [marksI_at hv]; exact ⟨by omega, by omega, by rw [show (0 : Int) + v = v by omega]; exact Conn.refl _ _⟩⟩

theorem LeadI.step {N : Nat} {es : List (Int × Int)} {xs : List Int} (h : LeadI N es xs) {i X Y : Nat} (hi : i < es.length) (hX : eA es i = X) (hY : eB es i = Y) (hXN : X < N) (hYN : Y < N) {a b m : Int} (ha : eI xs X = a) (hb : eI xs Y = b) (hm : m = min a b) (hne : a ≠ b) :
    LeadI N es ((xs.set X m).set Y m) ∧ sumL ((xs.set X m).set Y m) < sumL xs := by
  have hl := h.len
  obtain ⟨a1, a2, a3⟩ := h.at_ X hXN
  obtain ⟨b1, b2, b3⟩ := h.at_ Y hYN
  rw [ha] at a1 a2 a3
  rw [hb] at b1 b2 b3
  have hXY : X ≠ Y := fun e => hne (by rw [← ha, ← hb, e])
  have hcXY : Conn es X Y := by rw [← hX, ← hY]; exact Conn.edge hi
  have hmA : Conn es X m := by
    rcases Int.le_total a b with h1 | h1
    · rw [hm, Int.min_eq_left h1]; exact a3
    · rw [hm, Int.min_eq_right h1]; exact hcXY.trans b3
  have hmB : Conn es Y m := hcXY.symm.trans hmA
  have hm0 : 0 ≤ m ∧ m ≤ a ∧ m ≤ b := by omega
  have hl1 : (xs.set X m).length = N := by rw [List.length_set, hl]
  refine ⟨⟨by rw [List.length_set, hl1], fun v hv => ?_⟩, ?_⟩
  · rw [eI_set' (by omega), eI_set' (by omega)]
    by_cases h1 : v = Y
    · subst h1
      rw [if_pos rfl]
      exact ⟨hm0.1, by omega, hmB⟩
    · rw [if_neg h1]
      by_cases h2 : v = X
      · subst h2
        rw [if_pos rfl]
        exact ⟨hm0.1, by omega, hmA⟩
      · rw [if_neg h2]
        exact h.at_ v hv
  · have s1 := sumL_set xs X m (by omega)
    have s2 := sumL_set (xs.set X m) Y m (by omega)
    rw [eI_set' (by omega), if_neg (Ne.symm hXY), hb] at s2
    rw [ha] at s1
    omega

/-- A list of leaders: ends of edges have the same one. -/
def IsLead (N : Nat) (es : List (Int × Int)) (xs : List Int) : Prop := LeadI N es xs ∧ ∀ i, i < es.length → eI xs (eA es i).toNat = eI xs (eB es i).toNat

theorem IsLead.conn {N : Nat} {es : List (Int × Int)} {xs : List Int} (_he : EndsIn N es) (h : IsLead N es xs) {u v : Nat} (_hu : u < N) : Conn es u v → eI xs u = eI xs v := fun hc => by
  have := hc (fun x => eI xs u = eI xs x.toNat) (by simp) (fun i hi => by rw [h.2 i hi])
  simpa using this

/-- No vertex before it leads to it. -/
def leadB (N : Nat) (es : List (Int × Int)) (v : Nat) : Bool := (List.range v).all fun u => eI (farF N es (fun _ => true) u) v == -1

theorem leadB_iff {N : Nat} {es : List (Int × Int)} {v : Nat} (he : EndsIn N es) (hv : v < N) : leadB N es v = true ↔ ∀ u : Nat, u < v → ¬ Conn es u v := by
  unfold leadB
  rw [List.all_eq_true]
  refine ⟨fun h u hu hc => ?_, fun h u hu => ?_⟩
  · have h1 := h u (List.mem_range.2 hu)
    exact (farF_conn (keep := fun _ => true) he (a := (u : Int)) (by omega) (fun _ _ => rfl) hv).2 hc (by simpa using h1)
  · have hu' := List.mem_range.1 hu
    have h1 := fun e => h u hu' ((farF_conn (keep := fun _ => true) he (a := (u : Int)) (by omega) (fun _ _ => rfl) hv).1 e)
    simpa using Classical.not_not.1 h1

theorem IsLead.at_lead {N : Nat} {es : List (Int × Int)} {xs : List Int} (he : EndsIn N es) (h : IsLead N es xs) {v : Nat} (hv : v < N) : (eI xs v == (v : Int)) = leadB N es v := by
  have h1 : eI xs v = (v : Int) ↔ leadB N es v = true := by
    rw [leadB_iff he hv]
    obtain ⟨a1, a2, a3⟩ := h.1.at_ v hv
    refine ⟨fun e u hu hc => ?_, fun hno => ?_⟩
    · have h2 := h.conn he (by omega) hc
      have h3 := (h.1.at_ u (by omega)).2.1
      omega
    · obtain ⟨x, hx⟩ : ∃ x : Nat, eI xs v = x := ⟨_, (Int.toNat_of_nonneg a1).symm⟩
      rw [hx] at a2 a3 ⊢
      rcases Nat.lt_or_ge x v with h4 | h4
      · exact absurd a3.symm (hno x h4)
      · omega
  cases hb : leadB N es v
  · rw [hb] at h1
    simp at h1
    simpa using h1
  · rw [hb] at h1
    simpa using h1

/-- How many parts there are. -/
def leadU (N : Nat) (es : List (Int × Int)) (k : Nat) : List Nat := (List.range k).filter (leadB N es)
def numP (N : Nat) (es : List (Int × Int)) : Nat := (leadU N es N).length
theorem leadU_yes {N : Nat} {es : List (Int × Int)} {k : Nat} (h : leadB N es k = true) : leadU N es (k + 1) = leadU N es k ++ [k] := by
  unfold leadU
  rw [List.range_succ, List.filter_append]
  simp [h]
theorem leadU_no {N : Nat} {es : List (Int × Int)} {k : Nat} (h : leadB N es k = false) : leadU N es (k + 1) = leadU N es k := by
  unfold leadU
  rw [List.range_succ, List.filter_append]
  simp [h]
theorem leadU_len (N : Nat) (es : List (Int × Int)) (k : Nat) : (leadU N es k).length ≤ k := by
  unfold leadU
  have := List.length_filter_le (leadB N es) (List.range k)
  rwa [List.length_range] at this

/-- The vertices to which ways lead, of the first k ones. -/
def reachB (N : Nat) (es : List (Int × Int)) (v : Nat) (w : Nat) : Bool := eI (farF N es (fun _ => true) v) w != -1
def reachU (N : Nat) (es : List (Int × Int)) (v k : Nat) : List Int := ((List.range k).filter (reachB N es v)).map fun (i : Nat) => (i : Int)
theorem reachU_yes {N : Nat} {es : List (Int × Int)} {v k : Nat} (h : reachB N es v k = true) : reachU N es v (k + 1) = reachU N es v k ++ [(k : Int)] := by
  unfold reachU
  rw [List.range_succ, List.filter_append, List.map_append]
  simp [h]
theorem reachU_no {N : Nat} {es : List (Int × Int)} {v k : Nat} (h : reachB N es v k = false) : reachU N es v (k + 1) = reachU N es v k := by
  unfold reachU
  rw [List.range_succ, List.filter_append, List.map_append]
  simp [h]
theorem reachU_len (N : Nat) (es : List (Int × Int)) (v k : Nat) : (reachU N es v k).length ≤ k := by
  unfold reachU
  rw [List.length_map]
  exact Nat.le_trans (List.length_filter_le _ _) (by simp)
theorem reachB_iff {N : Nat} {es : List (Int × Int)} {v w : Nat} (he : EndsIn N es) (hv : v < N) (hw : w < N) : reachB N es v w = true ↔ Conn es v w := by
  unfold reachB
  rw [← farF_conn (keep := fun _ => true) he (a := (v : Int)) (by omega) (fun _ _ => rfl) hw]
  simp

/-- Which vertices are placed when the first k vertices have been looked at. -/
def placedB (N : Nat) (es : List (Int × Int)) (k w : Nat) : Bool := (List.range k).any fun v => leadB N es v && reachB N es v w
theorem placedB_lead {N : Nat} {es : List (Int × Int)} (he : EndsIn N es) {v : Nat} (hv : v < N) : placedB N es v v = !leadB N es v := by
  have h1 : placedB N es v v = true ↔ ¬ (leadB N es v = true) := by
    unfold placedB
    rw [List.any_eq_true, leadB_iff he hv]
    refine ⟨fun ⟨u, hu, h⟩ hno => ?_, fun h => ?_⟩
    · have hu' := List.mem_range.1 hu
      rw [Bool.and_eq_true] at h
      exact hno u hu' ((reachB_iff he (by omega) hv).1 h.2)
    · -- the least vertex that leads to v
      have hex : ∃ u, u < v ∧ Conn es u v := Classical.byContradiction fun hn => h (fun u hu hc => hn ⟨u, hu, hc⟩)
      have key : ∀ n u, u = n → u < v → Conn es u v → ∃ u', u' < v ∧ leadB N es u' = true ∧ Conn es u' v := by
        intro n
        induction n using Nat.strongRecOn with
        | _ n ih =>
          intro u hun hu hc
          by_cases hl : leadB N es u = true
          · exact ⟨u, hu, hl, hc⟩
          · rw [leadB_iff he (by omega)] at hl
            obtain ⟨u2, h2, h3⟩ : ∃ u2 : Nat, u2 < u ∧ Conn es u2 u := Classical.byContradiction fun hn => hl (fun u2 hu2 hc2 => hn ⟨u2, hu2, hc2⟩)
            exact ih u2 (by omega) u2 rfl (by omega) (h3.trans hc)
      obtain ⟨u, hu, hc⟩ := hex
      obtain ⟨u', h1, h2, h3⟩ := key u u rfl hu hc
      exact ⟨u', List.mem_range.2 h1, by rw [Bool.and_eq_true]; exact ⟨h2, (reachB_iff he (by omega) hv).2 h3⟩⟩
  cases hb : leadB N es v
  · rw [hb] at h1
    simpa using h1
  · rw [hb] at h1
    simp at h1
    simpa using h1
theorem placedB_yes {N : Nat} {es : List (Int × Int)} {k w : Nat} (h : leadB N es k = true) : placedB N es (k + 1) w = (placedB N es k w || reachB N es k w) := by
  unfold placedB
  rw [List.range_succ, List.any_append]
  simp [h]
theorem placedB_no {N : Nat} {es : List (Int × Int)} {k w : Nat} (h : leadB N es k = false) : placedB N es (k + 1) w = placedB N es k w := by
  unfold placedB
  rw [List.range_succ, List.any_append]
  simp [h]

end Go.Proofs.Ytfdlhdgmbjdhbaa
