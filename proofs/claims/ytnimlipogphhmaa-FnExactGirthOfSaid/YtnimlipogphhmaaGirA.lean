/- In a graph in which each vertex has three edges some edge lies on a cycle. No program is named here. -/
import Derived.Test.YtnimlipogphhmaaChnA
namespace Go.Proofs.Ytnimlipogphhmaa
open Go.RowKit

/-- Where each vertex has two edges at least, the ends of some edge are joined without it: a walk that never goes back at once meets a vertex again. -/
theorem some_cycle {N : Nat} {es : List (Int × Int)} (hN : 0 < N) (he : ∀ i, i < es.length → (0 ≤ eA es i ∧ eA es i < N) ∧ (0 ≤ eB es i ∧ eB es i < N))
    (H : ∀ (v e : Nat), v < N → ∃ e', e' < es.length ∧ onE es (v : Int) e' = true ∧ e' ≠ e) :
    ∃ e, e < es.length ∧ ∀ P : Int → Prop, P (eA es e) → (∀ k, k < es.length → k ≠ e → (P (eA es k) ↔ P (eB es k))) → P (eB es e) := by
  have H2 : ∀ s : Nat × Nat, ∃ e', s.1 < N → (e' < es.length ∧ onE es (s.1 : Int) e' = true ∧ e' ≠ s.2) := fun s => by
    by_cases h : s.1 < N
    · obtain ⟨e', h1⟩ := H s.1 s.2 h
      exact ⟨e', fun _ => h1⟩
    · exact ⟨0, fun h' => absurd h' h⟩
  obtain ⟨F, hF⟩ := Classical.axiomOfChoice H2
  -- the walk: vertex and the edge by which it goes on
  obtain ⟨W, hW0, hWs⟩ : ∃ W : Nat → Nat × Nat, W 0 = (0, F (0, es.length)) ∧ ∀ k, W (k + 1) = ((othE es ((W k).1 : Int) (W k).2).toNat, F ((othE es ((W k).1 : Int) (W k).2).toNat, (W k).2)) :=
    ⟨fun k => Nat.rec (0, F (0, es.length)) (fun _ s => ((othE es (s.1 : Int) s.2).toNat, F ((othE es (s.1 : Int) s.2).toNat, s.2))) k, rfl, fun _ => rfl⟩
  have hoth : ∀ (v : Int) (e : Nat), e < es.length → onE es v e = true → (v = eA es e ∧ othE es v e = eB es e) ∨ (v = eB es e ∧ othE es v e = eA es e) := fun v e hl ho => by
    unfold onE at ho
    unfold othE
    rw [Bool.or_eq_true, beq_iff_eq, beq_iff_eq] at ho
    omega
  have hinv : ∀ k, (W k).1 < N ∧ (W k).2 < es.length ∧ onE es ((W k).1 : Int) (W k).2 = true := by
    intro k
    induction k with
    | zero =>
      rw [hW0]
      have h := hF (0, es.length) hN
      exact ⟨hN, h.1, h.2.1⟩
    | succ k ih =>
      rw [hWs]
      have h1 := hoth _ _ ih.2.1 ih.2.2
      have h2 := he _ ih.2.1
      have h3 : (othE es ((W k).1 : Int) (W k).2).toNat < N := by omega
      have h := hF ((othE es ((W k).1 : Int) (W k).2).toNat, (W k).2) h3
      exact ⟨h3, h.1, h.2.1⟩
  have hback : ∀ k, (W (k + 1)).2 ≠ (W k).2 := fun k => by
    have h := (hinv (k + 1)).1
    rw [hWs] at h ⊢
    exact (hF ((othE es ((W k).1 : Int) (W k).2).toNat, (W k).2) h).2.2
  have hgo : ∀ k, ((W k).1 : Int) = eA es (W k).2 ∧ ((W (k + 1)).1 : Int) = eB es (W k).2 ∨ ((W k).1 : Int) = eB es (W k).2 ∧ ((W (k + 1)).1 : Int) = eA es (W k).2 := fun k => by
    have h1 := hoth _ _ (hinv k).2.1 (hinv k).2.2
    have h2 := he _ (hinv k).2.1
    rw [hWs]
    dsimp only
    omega
  -- the first vertex that is met again
  obtain ⟨i0, j0, hij0, hj0, e0⟩ := pigeon N (fun k => (W k).1) (fun k _ => (hinv k).1)
  have hex : ∃ j, ∃ i, i < j ∧ (W i).1 = (W j).1 := ⟨j0, i0, hij0, e0⟩
  have hfirst : ∃ j, (∃ i, i < j ∧ (W i).1 = (W j).1) ∧ ∀ j', j' < j → ¬ ∃ i, i < j' ∧ (W i).1 = (W j').1 := by
    have key : ∀ m j, j ≤ m → (∃ i, i < j ∧ (W i).1 = (W j).1) → ∃ j, (∃ i, i < j ∧ (W i).1 = (W j).1) ∧ ∀ j', j' < j → ¬ ∃ i, i < j' ∧ (W i).1 = (W j').1 := by
      intro m
      induction m with
      | zero => intro j hj h; obtain ⟨i, h1, _⟩ := h; omega
      | succ m ih =>
        intro j hj h
        by_cases hs : ∃ j', j' < j ∧ ∃ i, i < j' ∧ (W i).1 = (W j').1
        · obtain ⟨j', h1, h2⟩ := hs
          exact ih j' (by omega) h2
        · exact ⟨j, h, fun j' h1 h2 => hs ⟨j', h1, h2⟩⟩
    obtain ⟨j, h⟩ := hex
    exact key j j (Nat.le_refl _) h
  obtain ⟨j, ⟨i, hij, hvi⟩, hmin⟩ := hfirst
  obtain ⟨q, rfl⟩ : ∃ q, j = q + 1 := ⟨j - 1, by omega⟩
  have hdist : ∀ a b, a < b → b ≤ q → (W a).1 ≠ (W b).1 := fun a b hab hb h => hmin b (by omega) ⟨a, hab, h⟩
  refine ⟨(W q).2, (hinv q).2.1, fun P hPA hc => ?_⟩
  have hne : ∀ k, i ≤ k → k < q → (W k).2 ≠ (W q).2 := fun k hk hkq heq => by
    have h1 := hgo k
    have h2 := hgo q
    rw [heq] at h1
    by_cases hkq1 : k + 1 = q
    · subst hkq1
      exact hback k heq.symm
    · have h3 := hdist k q hkq (Nat.le_refl _)
      have h4 := hdist (k + 1) q (by omega) (Nat.le_refl _)
      omega
  have hway : ∀ k, i ≤ k → k ≤ q → (P ((W i).1 : Int) ↔ P ((W k).1 : Int)) := by
    intro k
    induction k with
    | zero => intro hk _; obtain rfl : i = 0 := by omega
              exact Iff.rfl
    | succ k ih =>
      intro hk hkq
      by_cases h : i = k + 1
      · subst h; exact Iff.rfl
      · have h1 := ih (by omega) (by omega)
        have h2 := hc (W k).2 (hinv k).2.1 (hne k (by omega) (by omega))
        rcases hgo k with ⟨h3, h4⟩ | ⟨h3, h4⟩
        · rw [h1, h3, h4]; exact h2
        · rw [h1, h3, h4]; exact h2.symm
  have hw := hway q (by omega) (Nat.le_refl _)
  rcases hgo q with ⟨h3, h4⟩ | ⟨h3, h4⟩
  · rw [← h3] at hPA
    have := hw.2 hPA
    rw [hvi, h4] at this
    exact this
  · rw [← h4, ← hvi] at hPA
    have := hw.1 hPA
    rw [h3] at this
    exact this

end Go.Proofs.Ytnimlipogphhmaa
