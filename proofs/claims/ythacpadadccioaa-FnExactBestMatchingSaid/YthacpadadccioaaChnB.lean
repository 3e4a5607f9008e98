/- The chain found by a search over edges, as plain lists. No program is named here. -/
import Derived.Test.YthacpadadccioaaChnA
namespace Go.Proofs.Ythacpadadccioaa
open Go.RowKit

/-- All edges of the chain's colours at a vertex are marked. -/
def seenV (es : List (Int × Int)) (cs : List Int) (d : Int) (e : Nat) (ms : List Bool) (v : Int) : Prop := ∀ y, y < es.length → onE es v y = true → (eI cs y = eI cs e ∨ eI cs y = d - eI cs e) → eL ms y = true
structure ChI (es : List (Int × Int)) (cs : List Int) (d : Int) (e : Nat) (ms : List Bool) (qs : List Int) : Prop where
  len : ms.length = es.length
  dist : ∀ i j, i < j → j < qs.length → eI qs i ≠ eI qs j
  mem : ∀ x, x ∈ qs → 0 ≤ x ∧ x < es.length ∧ eL ms x.toNat = true ∧ ChIn es cs d e x.toNat
  all : ∀ f, f < es.length → eL ms f = true → (f : Int) ∈ qs
  has : eL ms e = true

section
variable {s : Int} {es : List (Int × Int)} {cs : List Int} {d : Int} {e : Nat} {ms ms' : List Bool} {qs : List Int}
theorem seenV.mono {v : Int} (h : seenV es cs d e ms v) (hm : ∀ y, eL ms y = true → eL ms' y = true) : seenV es cs d e ms' v := fun y h1 h2 h3 => hm y (h y h1 h2 h3)
theorem set_mono {f : Nat} (hf : f < ms.length) : ∀ y, eL ms y = true → eL (ms.set f true) y = true := fun y h => by
  rw [eL_set hf]
  split
  · rfl
  · exact h
theorem ChI.at (h : ChI es cs d e ms qs) {i : Nat} (hi : i < qs.length) : 0 ≤ eI qs i ∧ eI qs i < es.length ∧ eL ms (eI qs i).toNat = true ∧ ChIn es cs d e (eI qs i).toNat := h.mem _ (eI_mem hi)
theorem ChI.le (h : ChI es cs d e ms qs) : qs.length ≤ es.length := by
  rcases Nat.lt_or_ge es.length qs.length with hl | hl
  · obtain ⟨i, j, hij, hj, he⟩ := pigeon es.length (fun i => (eI qs i).toNat) (fun i hi => by have := h.at (i := i) (by omega); omega)
    have h1 := h.at (i := i) (by omega)
    have h2 := h.at (i := j) (by omega)
    exact absurd (by omega) (h.dist i j hij (by omega))
  · exact hl
theorem ChI.put (h : ChI es cs d e ms qs) {f : Nat} (hf : f < es.length) (hnew : eL ms f = false) (hin : ChIn es cs d e f) : ChI es cs d e (ms.set f true) (qs ++ [(f : Int)]) := by
  have hfl : f < ms.length := by rw [h.len]; exact hf
  refine ⟨by rw [List.length_set]; exact h.len, fun i j hij hj => ?_, fun x hx => ?_, fun y hy hm => ?_, set_mono hfl _ h.has⟩
  · rw [List.length_append, List.length_singleton] at hj
    rw [eI_append (by omega)]
    rcases Nat.lt_or_ge j qs.length with hl | hl
    · rw [eI_append hl]
      exact h.dist i j hij hl
    · obtain rfl : j = qs.length := by omega
      rw [eI_last]
      intro e1
      have h2 := (h.at hij).2.2.1
      rw [e1, Int.toNat_natCast, hnew] at h2
      exact absurd h2 (by decide)
  · rcases List.mem_append.1 hx with h2 | h2
    · obtain ⟨h3, h4, h5, h6⟩ := h.mem x h2
      exact ⟨h3, h4, set_mono hfl _ h5, h6⟩
    · obtain rfl : x = (f : Int) := by simpa using h2
      rw [Int.toNat_natCast]
      exact ⟨by omega, by omega, by rw [eL_set hfl, if_pos rfl], hin⟩
  · rw [eL_set hfl] at hm
    by_cases e1 : y = f
    · subst e1
      exact List.mem_append.2 (.inr (by simp))
    · rw [if_neg e1] at hm
      exact List.mem_append.2 (.inl (h.all y hy hm))
theorem ChI.start (G : ChG s es cs d e) : ChI es cs d e ((List.replicate es.length false).set e true) [(e : Int)] := by
  have he := G.he
  have hl : e < (List.replicate es.length false).length := by simpa using he
  refine ⟨by simp, fun i j hij hj => ?_, fun x hx => ?_, fun y hy hm => ?_, by rw [eL_set hl, if_pos rfl]⟩
  · have hj' : j < 1 := hj
    omega
  · obtain rfl : x = (e : Int) := by simpa using hx
    rw [Int.toNat_natCast]
    exact ⟨by omega, by omega, by rw [eL_set hl, if_pos rfl], fun _ h0 _ => h0⟩
  · rw [eL_set hl] at hm
    by_cases e1 : y = e
    · subst e1; simp
    · rw [if_neg e1, eL_lt (by simpa using hy)] at hm
      simp at hm
/-- The marks of a chain. -/
def chM (es : List (Int × Int)) (cs : List Int) (d : Int) (e : Nat) : List Bool := (List.range es.length).map (chB es cs d e)
theorem chM_len (es : List (Int × Int)) (cs : List Int) (d : Int) (e : Nat) : (chM es cs d e).length = es.length := by simp [chM]
theorem chM_at {f : Nat} (hf : f < es.length) : eL (chM es cs d e) f = chB es cs d e f := by
  unfold chM
  rw [eL_lt (by simpa using hf)]
  simp
theorem ChI.done (G : ChG s es cs d e) (h : ChI es cs d e ms qs) (hd : ∀ p, p < qs.length → seenV es cs d e ms (eA es (eI qs p).toNat) ∧ seenV es cs d e ms (eB es (eI qs p).toNat)) : ms = chM es cs d e := by
  refine List.ext_getElem (by rw [h.len, chM_len]) fun f h1 h2 => ?_
  have hf : f < es.length := by rw [h.len] at h1; exact h1
  rw [← eL_lt h1, ← eL_lt h2, chM_at hf]
  have key : eL ms f = true ↔ ChIn es cs d e f := by
    constructor
    · intro hm
      have := (h.mem _ (h.all f hf hm)).2.2.2
      rwa [Int.toNat_natCast] at this
    · intro hc
      refine hc (fun f => eL ms f = true) h.has ?_
      intro x y v hx hxl hyl hvx hvy hcol
      obtain ⟨p, hp, ep⟩ := List.getElem_of_mem (h.all x hxl hx)
      have ep' : eI qs p = (x : Int) := by rw [eI_lt hp, ep]
      have h3 := hd p hp
      rw [ep', Int.toNat_natCast] at h3
      unfold onE at hvx
      by_cases e1 : eA es x = v
      · exact h3.1 y hyl (by rw [e1]; exact hvy) hcol
      · have e2 : eB es x = v := by simpa [e1] using hvx
        exact h3.2 y hyl (by rw [e2]; exact hvy) hcol
  by_cases hm : eL ms f = true
  · rw [hm, (chB_iff G).2 (key.1 hm)]
  · have hn : ¬ chB es cs d e f = true := fun hb => hm (key.2 ((chB_iff G).1 hb))
    rw [Bool.not_eq_true] at hm hn
    rw [hm, hn]
theorem ChIn.next {x y : Nat} {v : Int} (h : ChIn es cs d e x) (hx : x < es.length) (hy : y < es.length) (h1 : onE es v x = true) (h2 : onE es v y = true) (hc : eI cs y = eI cs e ∨ eI cs y = d - eI cs e) : ChIn es cs d e y := fun P h0 hcl => hcl x y v (h P h0 hcl) hx hy h1 h2 hc
end

/-- The chain's edges, ascending. -/
theorem chU_yes {es : List (Int × Int)} {cs : List Int} {d : Int} {e k : Nat} (h : chB es cs d e k = true) : chU es cs d e (k + 1) = chU es cs d e k ++ [(k : Int)] := by
  unfold chU
  rw [List.range_succ, List.filter_append, List.map_append]
  simp [h]
theorem chU_no {es : List (Int × Int)} {cs : List Int} {d : Int} {e k : Nat} (h : chB es cs d e k = false) : chU es cs d e (k + 1) = chU es cs d e k := by
  unfold chU
  rw [List.range_succ, List.filter_append, List.map_append]
  simp [h]

/-- What is asked of a graph, a colouring, an edge and a colour; the chain. -/
def chainP (_es : List (Int × Int)) (cs : List Int) (e b : Int) : Prop := (0 ≤ e ∧ e < cs.length) ∧ (0 ≤ b ∧ b < 3) ∧ eI cs e.toNat ≠ b
instance (es : List (Int × Int)) (cs : List Int) (e b : Int) : Decidable (chainP es cs e b) := by unfold chainP; infer_instance
def chainCode (s : Int) (es : List (Int × Int)) (cs : List Int) (e b : Int) : Int := if IsG s es then (if isColP es cs then (if chainP es cs e b then 0 else 2) else 2) else 1
def fChainOf (s : Int) (es : List (Int × Int)) (cs : List Int) (e b : Int) : List Int × Int := if chainCode s es cs e b = 0 then (chU es cs (eI cs e.toNat + b) e.toNat es.length, 0) else ([], chainCode s es cs e b)
theorem chainCode_zero {s : Int} {es : List (Int × Int)} {cs : List Int} {e b : Int} (h : chainCode s es cs e b = 0) : IsG s es ∧ isColP es cs ∧ chainP es cs e b ∧ ChG s es cs (eI cs e.toNat + b) e.toNat := by
  unfold chainCode at h
  by_cases g : IsG s es
  · rw [if_pos g] at h
    by_cases gc : isColP es cs
    · rw [if_pos gc] at h
      by_cases gp : chainP es cs e b
      · refine ⟨g, gc, gp, g, gc, ?_, ?_, ?_⟩
        · have := gp.1
          have := gc.1
          omega
        · have := gp.2.1
          omega
        · have := gp.2.2
          omega
      · rw [if_neg gp] at h; exact absurd h (by decide)
    · rw [if_neg gc] at h; exact absurd h (by decide)
  · rw [if_neg g] at h; exact absurd h (by decide)
theorem fChainOf_len (s : Int) (es : List (Int × Int)) (cs : List Int) (e b : Int) (h : es.length ≤ 1048576) (_ : cs.length ≤ 1048576) : (fChainOf s es cs e b).1.length ≤ 1048576 := by
  unfold fChainOf
  split
  · have := chU_len es cs (eI cs e.toNat + b) e.toNat es.length
    dsimp only
    omega
  · simp

end Go.Proofs.Ythacpadadccioaa
