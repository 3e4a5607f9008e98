/- The least number of colours that is enough, plainly. No program is named here. -/
import Derived.Test.YtonlpihbpbnnmaaSrcA
namespace Go.Proofs.Ytonlpihbpbnnmaa
open Go.RowKit

def hasK (M : Nat → Nat → Bool) (N k : Nat) : Bool := (leastL k 1 M N).isSome
/-- The least number of colours that is enough, of those from k on. -/
theorem least_one (M : Nat → Nat → Bool) (N : Nat) (h1 : 1 ≤ N) : ∃ X, (1 ≤ X ∧ X ≤ N) ∧ hasK M N X = true ∧ ∀ y, 1 ≤ y → y < X → hasK M N y = false := by
  obtain ⟨zs, hz⟩ := least_enough M N
  have hN : hasK M N N = true := by unfold hasK; rw [hz]; rfl
  have key : ∀ d, d < N → hasK M N (N - d) = true → ∃ X, (1 ≤ X ∧ X ≤ N) ∧ hasK M N X = true ∧ ∀ y, 1 ≤ y → y < X → hasK M N y = false := by
    intro d
    induction hm : N - d using Nat.strongRecOn generalizing d with
    | _ m ih =>
      intro hd h
      by_cases hall : ∀ y, 1 ≤ y → y < m → hasK M N y = false
      · exact ⟨m, by omega, h, hall⟩
      · obtain ⟨y, hy⟩ := Classical.not_forall.1 hall
        have hy1 : 1 ≤ y := Classical.byContradiction fun h => hy fun h2 => absurd h2 h
        have hy2 : y < m := Classical.byContradiction fun h => hy fun _ h2 => absurd h2 h
        have hy3 : hasK M N y = true := by
          cases e : hasK M N y
          · exact absurd (fun _ _ => e) hy
          · rfl
        exact ih y hy2 (N - y) (by omega) (by omega) hy3
  exact key 0 (by omega) (by rw [Nat.sub_zero]; exact hN)
theorem least_unique {p : Nat → Bool} {X Y : Nat} (hX : 1 ≤ X ∧ p X = true ∧ ∀ y, 1 ≤ y → y < X → p y = false) (hY : 1 ≤ Y ∧ p Y = true ∧ ∀ y, 1 ≤ y → y < Y → p y = false) : X = Y := by
  rcases Nat.lt_trichotomy X Y with h | h | h
  · have := hY.2.2 X hX.1 h
    rw [hX.2.1] at this
    cases this
  · exact h
  · have := hX.2.2 Y hY.1 h
    rw [hY.2.1] at this
    cases this
def leastX (M : Nat → Nat → Bool) (N : Nat) : Nat := (firstS (fun x => if hasK M N (x + 1) = true then some (x + 1) else none) N).getD 0
theorem leastX_spec {M : Nat → Nat → Bool} {N : Nat} (h : 1 ≤ N) : (1 ≤ leastX M N ∧ leastX M N ≤ N) ∧ hasK M N (leastX M N) = true ∧ ∀ y, 1 ≤ y → y < leastX M N → hasK M N y = false := by
  obtain ⟨X, hX1, hX2, hX3⟩ := least_one M N h
  have e : leastX M N = X := by
    unfold leastX
    rw [firstS_some (x := X - 1) (a := X) (fun y hy => by
      rw [if_neg]
      intro h2
      rw [hX3 (y + 1) (by omega) (by omega)] at h2
      cases h2) (by
      rw [show X - 1 + 1 = X by omega, if_pos hX2]) (by omega)]
    rfl
  rw [e]
  exact ⟨hX1, hX2, hX3⟩
theorem fitB_congM {k d x : Int} {M M' : Nat → Nat → Bool} {xs : List Int} {i : Nat} (h : ∀ j, j < i → M i j = M' i j) : fitB k d M xs i x = fitB k d M' xs i x := by
  unfold fitB
  rw [decide_eq_decide]
  constructor
  · intro h1 j hj hM
    exact h1 j hj (by rw [h j hj]; exact hM)
  · intro h1 j hj hM
    exact h1 j hj (by rw [← h j hj]; exact hM)
theorem firstS_congF {α : Type} {f g : Nat → Option α} (h : ∀ x, f x = g x) : ∀ k, firstS f k = firstS g k := fun k => by rw [funext h]
theorem srch_congM {k n : Nat} {d : Int} {M M' : Nat → Nat → Bool} (h : ∀ i j, j < i → i < n → M i j = M' i j) : ∀ (r : Nat) (xs : List Int), xs.length + r = n → srch k d M r xs = srch k d M' r xs
  | 0, _, _ => rfl
  | r + 1, xs, hl => by
    unfold srch
    refine firstS_congF (fun x => ?_) k
    rw [fitB_congM (M' := M') (fun j hj => h xs.length j hj (by omega)), srch_congM h r _ (by rw [List.length_append]; simp; omega)]
theorem leastX_cong {M M' : Nat → Nat → Bool} {N : Nat} (hN : 1 ≤ N) (h : ∀ i j, j < i → i < N → M i j = M' i j) : leastX M N = leastX M' N := by
  have e : ∀ k, hasK M N k = hasK M' N k := fun k => by
    unfold hasK leastL
    rw [srch_congM h N [] (by simp)]
  obtain ⟨⟨a, _⟩, b, c⟩ := leastX_spec (M := M) hN
  obtain ⟨⟨a', _⟩, b', c'⟩ := leastX_spec (M := M') hN
  exact least_unique (p := hasK M N) ⟨a, b, c⟩ ⟨a', by rw [e]; exact b', fun y h1 h2 => by rw [e]; exact c' y h1 h2⟩

end Go.Proofs.Ytonlpihbpbnnmaa
