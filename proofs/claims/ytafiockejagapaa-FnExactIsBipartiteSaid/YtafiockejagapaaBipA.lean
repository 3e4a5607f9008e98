/- Graphs whose vertices lie on two sides: told by the parity of distances, and by edges whose ends are as far. No program is named here. -/
import Derived.Test.YtafiockejagapaaFarB
import Derived.Test.YtafiockejagapaaLead
namespace Go.Proofs.Ytafiockejagapaa
open Go.RowKit

/-- The distances from a vertex. -/
def farA (N : Nat) (es : List (Int × Int)) (v : Nat) : List Int := farF N es (fun _ => true) v
/-- The ends of the edge e are as far from v, and a way leads there. -/
def oneB (N : Nat) (es : List (Int × Int)) (v e : Nat) : Bool := (eI (farA N es v) (eA es e).toNat != -1) && (eI (farA N es v) (eA es e).toNat == eI (farA N es v) (eB es e).toNat)
def hasOne (N : Nat) (es : List (Int × Int)) (v k : Nat) : Bool := (List.range k).any (oneB N es v)
def bipB (N : Nat) (es : List (Int × Int)) : Bool := (leadU N es N).all fun v => !hasOne N es v es.length
def fIsBipartite (s : Int) (es : List (Int × Int)) : Bool × Int := if IsG s es then (bipB s.toNat es, 0) else (false, 1)

theorem hasOne_succ (N : Nat) (es : List (Int × Int)) (v k : Nat) : hasOne N es v (k + 1) = (hasOne N es v k || oneB N es v k) := by
  unfold hasOne
  rw [List.range_succ, List.any_append]
  simp
theorem hasOne_true {N : Nat} {es : List (Int × Int)} {v k e : Nat} (he : e < k) (h : oneB N es v e = true) : hasOne N es v k = true := by
  unfold hasOne
  rw [List.any_eq_true]
  exact ⟨e, List.mem_range.2 he, h⟩
theorem hasOne_false {N : Nat} {es : List (Int × Int)} {v k : Nat} (h : ∀ e, e < k → oneB N es v e = false) : hasOne N es v k = false := by
  unfold hasOne
  rw [List.any_eq_false]
  intro e he
  rw [h e (List.mem_range.1 he)]
  decide
theorem leadU_mem {N : Nat} {es : List (Int × Int)} {k v : Nat} : v ∈ leadU N es k ↔ v < k ∧ leadB N es v = true := by
  unfold leadU
  rw [List.mem_filter, List.mem_range]
theorem bip_false {N : Nat} {es : List (Int × Int)} {v : Nat} (hv : v ∈ leadU N es N) (h : hasOne N es v es.length = true) : bipB N es = false := by
  unfold bipB
  rw [List.all_eq_false]
  exact ⟨v, hv, by rw [h]; decide⟩
theorem bip_true {N : Nat} {es : List (Int × Int)} (h : ∀ v, v ∈ leadU N es N → hasOne N es v es.length = false) : bipB N es = true := by
  unfold bipB
  rw [List.all_eq_true]
  intro v hv
  rw [h v hv]
  rfl

section
variable {N : Nat} {es : List (Int × Int)} {xs : List Int}
/-- The leader of an edge's first end. -/
theorem lead_edge (he : EndsIn N es) (hl : IsLead N es xs) {e L : Nat} (hel : e < es.length) (hL : eI xs (eA es e).toNat = L) : L < N ∧ leadB N es L = true ∧ eI (farA N es L) (eA es e).toNat ≠ -1 ∧ eI (farA N es L) (eB es e).toNat ≠ -1 ∧ eI (farA N es L) (eB es e).toNat ≤ eI (farA N es L) (eA es e).toNat + 1 ∧ eI (farA N es L) (eA es e).toNat ≤ eI (farA N es L) (eB es e).toNat + 1 ∧ 0 ≤ eI (farA N es L) (eA es e).toNat ∧ 0 ≤ eI (farA N es L) (eB es e).toNat := by
  have h1 := (he e hel).1
  have hat := hl.1.at_ (eA es e).toNat (by omega)
  rw [hL] at hat
  obtain ⟨a1, a2, a3⟩ := hat
  have hLN : L < N := by omega
  rw [Int.toNat_of_nonneg h1.1] at a3
  have hc : Conn es (L : Int) (eA es e) := a3.symm
  have hre : eI (farF N es (fun _ => true) (L : Int)) (eA es e).toNat ≠ -1 := by
    rw [farF_conn he (a := (L : Int)) (by omega) (fun _ _ => rfl) (by omega), Int.toNat_of_nonneg h1.1]
    exact hc
  have hd := farF_diff he (a := (L : Int)) (by omega) hre hel (keep := fun _ => true) rfl
  have hxL : eI xs L = (L : Int) := by
    have := hl.conn he (u := (eA es e).toNat) (v := L) (by omega) (by rw [Int.toNat_of_nonneg h1.1]; exact a3)
    rw [← this, hL]
  have hlead : leadB N es L = true := by
    have := hl.at_lead he hLN
    rw [← this, hxL]
    simp
  have h2 := (he e hel).2
  have b1 := farF_bnd (keep := fun _ => true) he (a := (L : Int)) (by omega) (v := (eA es e).toNat) (by omega)
  have b2 := farF_bnd (keep := fun _ => true) he (a := (L : Int)) (by omega) (v := (eB es e).toNat) (by omega)
  unfold farA
  exact ⟨hLN, hlead, hre, hd.1, hd.2.1, hd.2.2, by omega, by have := hd.1; omega⟩

theorem bip_even (he : EndsIn N es) (hl : IsLead N es xs) {e L : Nat} (hel : e < es.length) (hL : eI xs (eA es e).toNat = L) (hp : (eI (farA N es L) (eA es e).toNat + eI (farA N es L) (eB es e).toNat) % 2 = 0) : bipB N es = false := by
  obtain ⟨h1, h2, h3, _, h5, h6, h7, h8⟩ := lead_edge he hl hel hL
  refine bip_false (leadU_mem.2 ⟨h1, h2⟩) (hasOne_true hel ?_)
  unfold oneB
  have e1 : eI (farA N es L) (eA es e).toNat = eI (farA N es L) (eB es e).toNat := by omega
  rw [← e1]
  simpa using h3
theorem bip_odd (he : EndsIn N es) (hl : IsLead N es xs) (h : ∀ e L : Nat, e < es.length → eI xs (eA es e).toNat = L → ¬ (eI (farA N es L) (eA es e).toNat + eI (farA N es L) (eB es e).toNat) % 2 = 0) : bipB N es = true := by
  refine bip_true fun v hv => hasOne_false fun e hel => ?_
  obtain ⟨hvN, hvl⟩ := leadU_mem.1 hv
  cases hb : oneB N es v e
  · rfl
  · exfalso
    unfold oneB at hb
    rw [Bool.and_eq_true] at hb
    obtain ⟨hb1, hb2⟩ := hb
    have hb1 : eI (farA N es v) (eA es e).toNat ≠ -1 := by simpa using hb1
    have hb2 : eI (farA N es v) (eA es e).toNat = eI (farA N es v) (eB es e).toNat := by simpa using hb2
    have h1 := (he e hel).1
    have hc : Conn es (v : Int) (((eA es e).toNat : Nat) : Int) := (farF_conn (keep := fun _ => true) he (a := (v : Int)) (by omega) (fun _ _ => rfl) (by omega)).1 hb1
    have hx := hl.conn he (u := v) (v := (eA es e).toNat) hvN hc
    have hxv : eI xs v = (v : Int) := by
      have := hl.at_lead he hvN
      rw [hvl] at this
      simpa using this
    exact h e v hel (by rw [← hx, hxv]) (by omega)
end

end Go.Proofs.Ytafiockejagapaa
