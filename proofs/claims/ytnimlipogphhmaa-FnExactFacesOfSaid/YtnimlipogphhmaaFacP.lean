/- Directed edges as triples; the orbits of the faces as one list. No program is named here. -/
import Derived.Test.YtnimlipogphhmaaFacB
namespace Go.Proofs.Ytnimlipogphhmaa
open Go.RowKit

/-- A directed edge: the edge, whence, whither. -/
def dirT (es : List (Int × Int)) (d : Nat) : Int × Int × Int := (((d / 2 : Nat) : Int), frD es d, toD es d)
theorem dirT_inj {N : Nat} {es : List (Int × Int)} (g : IsG (N : Int) es) {a b : Nat} (_ha : a < 2 * es.length) (_hb : b < 2 * es.length) (h : dirT es a = dirT es b) : a = b := by
  unfold dirT at h
  simp only [Prod.mk.injEq] at h
  obtain ⟨h1, h2, h3⟩ := h
  have h4 : a / 2 = b / 2 := by omega
  have hok := g.1.2 (a / 2) (by omega)
  unfold okEdge at hok
  unfold frD at h2
  rw [← h4] at h2
  by_cases ea : a % 2 = 0
  · by_cases eb : b % 2 = 0
    · omega
    · rw [if_pos ea, if_neg eb] at h2
      exact absurd h2 hok.2.2.2.2
  · by_cases eb : b % 2 = 0
    · rw [if_neg ea, if_pos eb] at h2
      exact absurd h2.symm hok.2.2.2.2
    · omega

/-- The directed edges of the first orbits, one after the other. -/
def flN (nx : Nat → Nat) (n k : Nat) : List Nat := (facN nx n k).flatten
section
variable {nx : Nat → Nat} {n k : Nat}
theorem flN_yes (hm : metF nx n k k = false) : flN nx n (k + 1) = flN nx n k ++ orbN nx n k := by
  unfold flN
  rw [facN_yes hm, List.flatten_append]
  simp
theorem flN_no (hm : metF nx n k k = true) : flN nx n (k + 1) = flN nx n k := by unfold flN; rw [facN_no hm]
theorem flN_zero : flN nx n 0 = [] := rfl
theorem face_flat (nx : Nat → Nat) (n k : Nat) : (faceL nx n k).flatten = (flN nx n k).map fun x => ((x / 2 : Nat) : Int) := by
  unfold faceL flN
  rw [List.map_flatten]
theorem flN_mem (h : PermN nx n) : ∀ k, k ≤ n → ∀ x, x ∈ flN nx n k ↔ metF nx n k x = true
  | 0, _, x => by simp [flN_zero, metF]
  | k + 1, hk, x => by
    have ih := flN_mem h k (by omega) x
    cases hm : metF nx n k k
    · rw [flN_yes hm, List.mem_append, ih, metF_succ, Bool.or_eq_true, decide_eq_true_eq]
    · rw [flN_no hm, ih, metF_old h (by omega) hm]
theorem orb_nodup (h : PermN nx n) (hk : k < n) : (orbN nx n k).Nodup := by
  unfold orbN
  rw [List.nodup_iff_pairwise_ne, List.pairwise_map]
  refine List.Pairwise.imp_of_mem ?_ (List.pairwise_lt_range)
  intro a b ha hb hab
  exact it_diff h hk hab (List.mem_range.1 hb)
theorem flN_nodup (h : PermN nx n) : ∀ k, k ≤ n → (flN nx n k).Nodup
  | 0, _ => by simp [flN_zero]
  | k + 1, hk => by
    have ih := flN_nodup h k (by omega)
    cases hm : metF nx n k k
    · rw [flN_yes hm]
      refine List.nodup_append.2 ⟨ih, orb_nodup h (by omega), fun a ha b hb e => ?_⟩
      subst e
      have h1 := (flN_mem h k (by omega) a).1 ha
      have h2 := metF_new h (by omega) hm hb
      rw [h1] at h2
      cases h2
    · rw [flN_no hm]; exact ih
theorem flN_lt (h : PermN nx n) : ∀ k, k ≤ n → ∀ x ∈ flN nx n k, x < n
  | 0, _, x, hx => by simp [flN_zero] at hx
  | k + 1, hk, x, hx => by
    cases hm : metF nx n k k
    · rw [flN_yes hm, List.mem_append] at hx
      rcases hx with hx | hx
      · exact flN_lt h k (by omega) x hx
      · exact orb_lt h (by omega) hx
    · rw [flN_no hm] at hx; exact flN_lt h k (by omega) x hx
theorem nodup_le {L : List Nat} {n : Nat} (h : L.Nodup) (hl : ∀ x ∈ L, x < n) : L.length ≤ n := by
  rcases Nat.lt_or_ge n L.length with hc | hc
  · exfalso
    obtain ⟨i, j, hij, hj, e⟩ := pigeon n (fun i => L.getD i 0) (fun i hi => by
      rw [List.getD_eq_getElem?_getD, List.getElem?_eq_getElem (by omega)]
      exact hl _ (List.getElem_mem _))
    have e : L.getD i 0 = L.getD j 0 := e
    rw [List.getD_eq_getElem?_getD, List.getD_eq_getElem?_getD, List.getElem?_eq_getElem (by omega), List.getElem?_eq_getElem (by omega)] at e
    have := (List.getElem_inj h).1 (show L[i] = L[j] from e)
    omega
  · exact hc
theorem flN_len (h : PermN nx n) {k : Nat} (hk : k ≤ n) : (flN nx n k).length ≤ n := nodup_le (flN_nodup h k hk) (flN_lt h k hk)
theorem flN_room (h : PermN nx n) {k : Nat} (hk : k < n) (hm : metF nx n k k = false) : (flN nx n k).length + perN nx n k ≤ n := by
  have h1 := flN_len h (k := k + 1) (by omega)
  rw [flN_yes hm, List.length_append, orbN_len] at h1
  exact h1
end
theorem dir_mem {N : Nat} {es : List (Int × Int)} (g : IsG (N : Int) es) {nx : Nat → Nat} (h : PermN nx (2 * es.length)) {k d : Nat} (hk : k ≤ 2 * es.length) (hd : d < 2 * es.length) : dirT es d ∈ (flN nx (2 * es.length) k).map (dirT es) ↔ metF nx (2 * es.length) k d = true := by
  rw [← flN_mem h k hk d, List.mem_map]
  constructor
  · rintro ⟨x, hx, e⟩
    have := dirT_inj g (flN_lt h k hk x hx) hd e
    rwa [← this]
  · exact fun hx => ⟨d, hx, rfl⟩

end Go.Proofs.Ytnimlipogphhmaa
