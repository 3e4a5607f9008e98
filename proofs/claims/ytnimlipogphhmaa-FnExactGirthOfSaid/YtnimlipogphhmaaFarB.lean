/- Breadth first search: the queue is ascending in distance, so the ends of an edge are at most one apart. No program is named here. -/
import Derived.Test.YtnimlipogphhmaaFar
namespace Go.Proofs.Ytnimlipogphhmaa
open Go.RowKit

/-- The distance of the queue's place j. -/
def dQ (st : List Int × List Int) (j : Nat) : Int := eI st.1 (eI st.2 j).toNat
structure AscI (st : List Int × List Int) (i : Nat) : Prop where
  asc : ∀ j k, j ≤ k → k < st.2.length → dQ st j ≤ dQ st k
  top : i < st.2.length → ∀ k, k < st.2.length → dQ st k ≤ dQ st i + 1

theorem farE_asc {N : Nat} {es : List (Int × Int)} {keep : Nat → Bool} {st : List Int × List Int} {e i : Nat} (he : EndsIn N es) (h : FarI N st) (ha : AscI st i) (hi : i < st.2.length) (hl : e < es.length) (ho : onE es (eI st.2 i) e = true) : AscI (farE es keep (eI st.2 i) st e) i := by
  obtain ⟨h1, h2⟩ := oth_in he hl ho
  obtain ⟨w, hw⟩ : ∃ w : Nat, othE es (eI st.2 i) e = w := ⟨_, (Int.toNat_of_nonneg h1).symm⟩
  have hwN : w < N := by omega
  unfold farE
  rw [hw, Int.toNat_natCast]
  split
  · rename_i hc
    have hlw : w < st.1.length := by rw [h.len]; exact hwN
    have old : ∀ k, k < st.2.length → dQ (st.1.set w (eI st.1 (eI st.2 i).toNat + 1), st.2 ++ [(w : Int)]) k = dQ st k := by
      intro k hk
      unfold dQ
      dsimp only
      rw [eI_append hk, eI_set' hlw, if_neg]
      intro e1
      have := (h.mem _ (eI_mem hk)).2.2
      rw [e1] at this
      exact this hc.2
    have new : dQ (st.1.set w (eI st.1 (eI st.2 i).toNat + 1), st.2 ++ [(w : Int)]) st.2.length = dQ st i + 1 := by
      unfold dQ
      dsimp only
      rw [eI_last, Int.toNat_natCast, eI_set' hlw, if_pos rfl]
    refine ⟨fun j k hjk hk => ?_, fun _ k hk => ?_⟩
    · dsimp only at hk
      rw [List.length_append, List.length_singleton] at hk
      rcases Nat.lt_or_ge k st.2.length with h3 | h3
      · rw [old k h3, old j (by omega)]
        exact ha.asc j k hjk h3
      · obtain rfl : k = st.2.length := by omega
        rw [new]
        rcases Nat.lt_or_ge j st.2.length with h4 | h4
        · rw [old j h4]
          exact ha.top hi j h4
        · obtain rfl : j = st.2.length := by omega
          rw [new]
          omega
    · dsimp only at hk
      rw [List.length_append, List.length_singleton] at hk
      rw [old i hi]
      rcases Nat.lt_or_ge k st.2.length with h3 | h3
      · rw [old k h3]
        exact ha.top hi k h3
      · obtain rfl : k = st.2.length := by omega
        rw [new]
        omega
  · exact ha

theorem farL_asc {N : Nat} {es : List (Int × Int)} {keep : Nat → Bool} {i : Nat} {v : Int} (he : EndsIn N es) : ∀ (L : List Nat) (st : List Int × List Int), FarI N st → i < st.2.length → eI st.2 i = v → AscI st i → (∀ e, e ∈ L → e < es.length ∧ onE es v e = true) → AscI (farL es keep v st L) i
  | [], _, _, _, _, h, _ => h
  | e :: L, st, h, hi, hv, ha, hL => by
    obtain ⟨h1, h2⟩ := hL e (by simp)
    have hm := h.mem _ (eI_mem hi)
    rw [hv] at hm
    obtain ⟨k1, k2, _⟩ := farE_inv (keep := keep) he h ⟨hm.1, hm.2.1⟩ hm.2.2 h1 h2
    subst hv
    have k4 := farE_asc (keep := keep) he h ha hi h1 h2
    exact farL_asc he L _ k1 (by have := k2.2.1; omega) (k2.1 i hi) k4 (fun e' h' => hL e' (by simp [h']))

theorem farS_asc {N : Nat} {es : List (Int × Int)} {keep : Nat → Bool} {a : Int} (he : EndsIn N es) (ha : 0 ≤ a ∧ a < N) : ∀ i, AscI (farS N es keep a i) i
  | 0 => by
    refine ⟨fun j k hjk hk => ?_, fun _ k hk => ?_⟩
    · have hk' : k < 1 := hk
      obtain rfl : k = 0 := by omega
      obtain rfl : j = 0 := by omega
      exact Int.le_refl _
    · have hk' : k < 1 := hk
      obtain rfl : k = 0 := by omega
      omega
  | i + 1 => by
    have IH := farS_asc (keep := keep) he ha i
    have inv := farS_inv (keep := keep) he ha i
    rw [farS]
    split
    · rename_i hc
      have h1 := farL_asc (keep := keep) he (onL es (eI (farS N es keep a i).2 i)) _ inv hc rfl IH (fun e he' => onL_mem.1 he')
      refine ⟨h1.asc, fun hi k hk => ?_⟩
      have h2 := h1.top (by omega) k hk
      have h3 := h1.asc i (i + 1) (by omega) hi
      omega
    · rename_i hc
      exact ⟨IH.asc, fun hi => by omega⟩

theorem farS_close {N : Nat} {es : List (Int × Int)} {keep : Nat → Bool} {a : Int} (he : EndsIn N es) (ha : 0 ≤ a ∧ a < N) : ∀ i j, j < i → j < (farS N es keep a i).2.length → ∀ e, e < es.length → onE es (eI (farS N es keep a i).2 j) e = true → keep e = true → eI (farS N es keep a i).1 (othE es (eI (farS N es keep a i).2 j) e).toNat ≤ dQ (farS N es keep a i) j + 1
  | 0 => fun j hj => by omega
  | i + 1 => fun j hj hjl e hel ho hk => by
    have IH := farS_close (keep := keep) he ha i
    have inv := farS_inv (keep := keep) he ha i
    have gr := farS_grows (keep := keep) he ha i
    have hjl' : j < (farS N es keep a i).2.length := by
      rcases Nat.lt_or_ge i (farS N es keep a i).2.length with h | h
      · omega
      · rw [farS, if_neg (by omega)] at hjl
        exact hjl
    have hje := gr.1 j hjl'
    obtain ⟨m1, m2, m3⟩ := inv.mem _ (eI_mem hjl')
    have hd : dQ (farS N es keep a (i + 1)) j = dQ (farS N es keep a i) j := by
      unfold dQ
      rw [hje, gr.2.2 _ (by omega) m3]
    rw [hd]
    rw [hje] at ho ⊢
    have hin := oth_in he hel ho
    rcases Nat.lt_or_ge j i with h | h
    · have h0 := farS_done he ha i j h hjl' e hel ho hk
      rw [gr.2.2 _ (by omega) h0]
      exact IH j h hjl' e hel ho hk
    · obtain rfl : j = i := by omega
      have h1 := farL_asc (keep := keep) he (onL es (eI (farS N es keep a j).2 j)) _ inv hjl' rfl (farS_asc (keep := keep) he ha j) (fun e he' => onL_mem.1 he')
      have h2 := farL_inv (keep := keep) he ⟨m1, m2⟩ _ _ inv m3 (fun e he' => onL_mem.1 he')
      rw [← farS_step hjl'] at h1 h2
      have h3 := h2.2.2 e (onL_mem.2 ⟨hel, ho⟩) hk
      have h4 := h2.1.all _ (by omega) h3
      rw [Int.toNat_of_nonneg hin.1] at h4
      obtain ⟨p, hp, ep⟩ := List.getElem_of_mem h4
      have h5 := h1.top hjl p hp
      rw [hd] at h5
      have h6 : dQ (farS N es keep a (j + 1)) p = eI (farS N es keep a (j + 1)).1 (othE es (eI (farS N es keep a j).2 j) e).toNat := by
        unfold dQ
        rw [eI_lt hp, ep]
      rw [h6] at h5
      exact h5

theorem farF_step {N : Nat} {es : List (Int × Int)} {keep : Nat → Bool} {a u : Int} {e : Nat} (he : EndsIn N es) (ha : 0 ≤ a ∧ a < N) (hu : 0 ≤ u ∧ u < N) (h : eI (farF N es keep a) u.toNat ≠ -1) (hel : e < es.length) (ho : onE es u e = true) (hk : keep e = true) :
    eI (farF N es keep a) (othE es u e).toNat ≠ -1 ∧ eI (farF N es keep a) (othE es u e).toNat ≤ eI (farF N es keep a) u.toNat + 1 := by
  have inv := farS_inv (keep := keep) he ha N
  have hm := inv.all u.toNat (by omega) h
  rw [Int.toNat_of_nonneg hu.1] at hm
  obtain ⟨j, hj, ej⟩ := List.getElem_of_mem hm
  have ej' : eI (farS N es keep a N).2 j = u := by rw [eI_lt hj, ej]
  have hjN : j < N := by have := inv.le; omega
  have h1 := farS_done he ha N j hjN hj e hel (by rw [ej']; exact ho) hk
  have h2 := farS_close he ha N j hjN hj e hel (by rw [ej']; exact ho) hk
  unfold dQ at h2
  rw [ej'] at h1 h2
  exact ⟨h1, h2⟩

theorem onE_A (es : List (Int × Int)) (e : Nat) : onE es (eA es e) e = true := by simp [onE]
theorem onE_B (es : List (Int × Int)) (e : Nat) : onE es (eB es e) e = true := by simp [onE]
theorem oth_A (es : List (Int × Int)) (e : Nat) : othE es (eA es e) e = eB es e := by unfold othE; omega
theorem oth_B (es : List (Int × Int)) (e : Nat) : othE es (eB es e) e = eA es e := by unfold othE; omega

/-- The ends of a kept edge, one of them reached, are both reached, and at most one apart. -/
theorem farF_diff {N : Nat} {es : List (Int × Int)} {keep : Nat → Bool} {a : Int} {e : Nat} (he : EndsIn N es) (ha : 0 ≤ a ∧ a < N) (h : eI (farF N es keep a) (eA es e).toNat ≠ -1) (hel : e < es.length) (hk : keep e = true) :
    eI (farF N es keep a) (eB es e).toNat ≠ -1 ∧ eI (farF N es keep a) (eB es e).toNat ≤ eI (farF N es keep a) (eA es e).toNat + 1 ∧ eI (farF N es keep a) (eA es e).toNat ≤ eI (farF N es keep a) (eB es e).toNat + 1 := by
  have h1 := farF_step he ha (he e hel).1 h hel (onE_A es e) hk
  rw [oth_A] at h1
  have h2 := farF_step he ha (he e hel).2 h1.1 hel (onE_B es e) hk
  rw [oth_B] at h2
  exact ⟨h1.1, h1.2, h2.2⟩

/-- The start is at the distance 0, and no other vertex is. -/
theorem farS_start {N : Nat} {es : List (Int × Int)} {keep : Nat → Bool} {a : Int} (he : EndsIn N es) (ha : 0 ≤ a ∧ a < N) : ∀ i, eI (farS N es keep a i).1 a.toNat = 0
  | 0 => by
    unfold farS
    dsimp only
    rw [eI_set' (by rw [List.length_replicate]; omega), if_pos rfl]
  | i + 1 => by
    have IH := farS_start (keep := keep) he ha i
    rw [(farS_grows (keep := keep) he ha i).2.2 _ (by omega) (by omega), IH]
theorem farL_pos {N : Nat} {es : List (Int × Int)} {keep : Nat → Bool} {v : Int} {u : Nat} (he : EndsIn N es) (hv : 0 ≤ v ∧ v < N) : ∀ (L : List Nat) (st : List Int × List Int), FarI N st → eI st.1 v.toNat ≠ -1 → (∀ e, e ∈ L → e < es.length ∧ onE es v e = true) → eI st.1 u ≠ 0 → eI (farL es keep v st L).1 u ≠ 0
  | [], _, _, _, _, h => h
  | e :: L, st, h, hv1, hL, hu => by
    obtain ⟨h1, h2⟩ := hL e (by simp)
    obtain ⟨k1, k2, k3⟩ := farE_inv (keep := keep) he h hv hv1 h1 h2
    have hv2 : eI (farE es keep v st e).1 v.toNat ≠ -1 := by rw [k2.2.2 v.toNat (by omega) hv1]; exact hv1
    refine farL_pos he hv L (farE es keep v st e) k1 hv2 (fun e' h' => hL e' (by simp [h'])) ?_
    unfold farE
    have hin := oth_in he h1 h2
    have hb := h.bnd v.toNat (by omega)
    split
    · dsimp only
      rw [eI_set' (by rw [h.len]; omega)]
      split
      · omega
      · exact hu
    · exact hu
theorem farS_pos {N : Nat} {es : List (Int × Int)} {keep : Nat → Bool} {a : Int} {u : Nat} (he : EndsIn N es) (ha : 0 ≤ a ∧ a < N) (hu : (u : Int) ≠ a) (huN : u < N) : ∀ i, eI (farS N es keep a i).1 u ≠ 0
  | 0 => by
    unfold farS
    dsimp only
    rw [eI_set' (by rw [List.length_replicate]; omega), if_neg (by omega), eI_rep huN]
    omega
  | i + 1 => by
    have IH := farS_pos (keep := keep) he ha hu huN i
    have inv := farS_inv (keep := keep) he ha i
    rw [farS]
    split
    · rename_i hc
      obtain ⟨m1, m2, m3⟩ := inv.mem _ (eI_mem hc)
      exact farL_pos he ⟨m1, m2⟩ _ _ inv m3 (fun e he' => onL_mem.1 he') IH
    · exact IH
theorem farF_start {N : Nat} {es : List (Int × Int)} {keep : Nat → Bool} {a : Int} (he : EndsIn N es) (ha : 0 ≤ a ∧ a < N) : eI (farF N es keep a) a.toNat = 0 := farS_start he ha N
theorem farF_pos {N : Nat} {es : List (Int × Int)} {keep : Nat → Bool} {a : Int} {u : Nat} (he : EndsIn N es) (ha : 0 ≤ a ∧ a < N) (hu : (u : Int) ≠ a) (huN : u < N) : eI (farF N es keep a) u ≠ 0 := farS_pos he ha hu huN N

end Go.Proofs.Ytnimlipogphhmaa
