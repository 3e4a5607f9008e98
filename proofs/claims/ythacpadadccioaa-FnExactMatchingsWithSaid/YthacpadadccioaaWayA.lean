/- Walks that never turn back in what has two edges at each vertex: they come back to their first edge, have no edge twice, and have all that is joined to it. No program is named here. -/
import Derived.Test.YthacpadadccioaaChnA
namespace Go.Proofs.Ythacpadadccioaa
open Go.RowKit

/-- Some edges, two at each vertex: `nx v f` is the one at v that is not f. -/
structure TwoG (s : Int) (es : List (Int × Int)) (ok : Nat → Bool) (nx : Int → Nat → Nat) : Prop where
  g : IsG s es
  lt : ∀ f, ok f = true → f < es.length
  nx_ok : ∀ v f, ok f = true → onE es v f = true → ok (nx v f) = true ∧ onE es v (nx v f) = true ∧ nx v f ≠ f
  one : ∀ v f h, ok f = true → ok h = true → onE es v f = true → onE es v h = true → h = f ∨ h = nx v f

def wyStep (es : List (Int × Int)) (nx : Int → Nat → Nat) (st : Nat × Int) : Nat × Int := (nx st.2 st.1, othE es st.2 (nx st.2 st.1))
/-- The walk from the edge e on, over its second end. -/
def wyS (es : List (Int × Int)) (nx : Int → Nat → Nat) (e : Nat) : Nat → Nat × Int
  | 0 => (e, eB es e)
  | i + 1 => wyStep es nx (wyS es nx e i)
def wyBack (es : List (Int × Int)) (nx : Int → Nat → Nat) (st : Nat × Int) : Nat × Int := (nx (othE es st.2 st.1) st.1, othE es st.2 st.1)
structure WyV (es : List (Int × Int)) (ok : Nat → Bool) (st : Nat × Int) : Prop where
  ok : ok st.1 = true
  on : onE es st.2 st.1 = true

section
variable {s : Int} {es : List (Int × Int)} {ok : Nat → Bool} {nx : Int → Nat → Nat} {e : Nat} {st : Nat × Int}
theorem TwoG.back (G : TwoG s es ok nx) {v : Int} {f : Nat} (hf : ok f = true) (ho : onE es v f = true) : nx v (nx v f) = f := by
  obtain ⟨h1, h2, h3⟩ := G.nx_ok v f hf ho
  rcases G.one v (nx v f) f h1 hf h2 ho with h | h
  · exact absurd h.symm h3
  · exact h.symm
theorem WyV.step (G : TwoG s es ok nx) (h : WyV es ok st) : WyV es ok (wyStep es nx st) := by
  obtain ⟨h1, h2, _⟩ := G.nx_ok st.2 st.1 h.ok h.on
  exact ⟨h1, oth_on h2⟩
theorem wyS_ok (G : TwoG s es ok nx) (he : ok e = true) : ∀ i, WyV es ok (wyS es nx e i)
  | 0 => ⟨he, by show onE es (eB es e) e = true; simp [onE]⟩
  | i + 1 => (wyS_ok G he i).step G
theorem wyBack_step (G : TwoG s es ok nx) (h : WyV es ok st) : wyBack es nx (wyStep es nx st) = st := by
  unfold wyBack wyStep
  dsimp only
  rw [oth_oth, G.back h.ok h.on]
theorem wyBack_rev : wyBack es nx (chRev es st) = chRev es (wyStep es nx st) := by
  unfold wyBack chRev wyStep
  dsimp only
  rw [oth_oth, oth_oth]
theorem wyS_norev (G : TwoG s es ok nx) (he : ok e = true) : ∀ k i, wyS es nx e (i + k) ≠ chRev es (wyS es nx e i)
  | 0, i => fun h => by
    have hv := wyS_ok G he i
    exact oth_ne G.g (G.lt _ hv.ok) hv.on (congrArg Prod.snd h).symm
  | 1, i => fun h => by
    have hv := wyS_ok G he i
    exact (G.nx_ok _ _ hv.ok hv.on).2.2 (congrArg Prod.fst h)
  | k + 2, i => fun h => by
    have hv := wyS_ok G he (i + k + 1)
    have h1 : wyBack es nx (wyS es nx e (i + (k + 2))) = wyS es nx e (i + k + 1) := wyBack_step G hv
    rw [h, wyBack_rev] at h1
    have h2 : wyS es nx e (i + 1 + k) = chRev es (wyS es nx e (i + 1)) := by
      rw [show i + 1 + k = i + k + 1 by omega, ← h1]
      rfl
    exact wyS_norev G he k (i + 1) h2
theorem wyS_shift (G : TwoG s es ok nx) (he : ok e = true) : ∀ i j, wyS es nx e i = wyS es nx e (i + j) → wyS es nx e 0 = wyS es nx e j
  | 0, j, h => by rwa [Nat.zero_add] at h
  | i + 1, j, h => by
    refine wyS_shift G he i j ?_
    have h1 := wyBack_step G (wyS_ok G he i)
    have h2 := wyBack_step G (wyS_ok G he (i + j))
    rw [show i + 1 + j = (i + j) + 1 by omega] at h
    have h3 : wyStep es nx (wyS es nx e i) = wyStep es nx (wyS es nx e (i + j)) := h
    rw [← h1, ← h2, h3]
theorem wyS_rng (G : TwoG s es ok nx) (h : WyV es ok st) : 0 ≤ st.2 ∧ st.2 < s := by
  have := oth_in' G.g (G.lt _ h.ok) (oth_on h.on)
  rwa [oth_oth] at this

theorem wy_end (G : TwoG s es ok nx) (he : ok e = true) : ∃ K, 0 < K ∧ (wyS es nx e K).1 = e ∧ ∀ i, 0 < i → i < K → (wyS es nx e i).1 ≠ e := by
  have h0 := G.g.1.1.1
  obtain ⟨N, rfl⟩ : ∃ N : Nat, s = N := ⟨_, (Int.toNat_of_nonneg (by omega)).symm⟩
  obtain ⟨i, j, hij, hj, hee⟩ := pigeon (es.length * N) (fun i => (wyS es nx e i).1 * N + (wyS es nx e i).2.toNat) (fun i _ => by
    have hv := wyS_ok G he i
    have h1 := G.lt _ hv.ok
    have h2 := wyS_rng G hv
    have h3 : (wyS es nx e i).1 * N + N ≤ es.length * N := by
      have := Nat.mul_le_mul_right N (show (wyS es nx e i).1 + 1 ≤ es.length by omega)
      rw [Nat.add_mul, Nat.one_mul] at this
      exact this
    omega)
  have hvi := wyS_rng G (wyS_ok G he i)
  have hvj := wyS_rng G (wyS_ok G he j)
  have e1 : (wyS es nx e i).1 = (wyS es nx e j).1 := by
    have hi2 : (wyS es nx e i).2.toNat < N := by omega
    have hj2 : (wyS es nx e j).2.toNat < N := by omega
    have h1 : ((wyS es nx e i).1 * N + (wyS es nx e i).2.toNat) / N = (wyS es nx e i).1 := by
      rw [Nat.mul_comm, Nat.mul_add_div (by omega), Nat.div_eq_of_lt hi2]; rfl
    have h2 : ((wyS es nx e j).1 * N + (wyS es nx e j).2.toNat) / N = (wyS es nx e j).1 := by
      rw [Nat.mul_comm, Nat.mul_add_div (by omega), Nat.div_eq_of_lt hj2]; rfl
    rw [← h1, ← h2, hee]
  have e2 : (wyS es nx e i).2 = (wyS es nx e j).2 := by
    rw [e1] at hee
    omega
  have e3 : wyS es nx e i = wyS es nx e j := Prod.ext e1 e2
  have e4 := wyS_shift G he i (j - i) (by rw [show i + (j - i) = j by omega]; exact e3)
  have e5 : 0 < j - i ∧ (wyS es nx e (j - i)).1 = e := ⟨by omega, by rw [← e4]; rfl⟩
  obtain ⟨K, hK, hmin⟩ := least (P := fun n => 0 < n ∧ (wyS es nx e n).1 = e) (j - i) e5
  exact ⟨K, hK.1, hK.2, fun i h1 h2 h3 => hmin i h2 ⟨h1, h3⟩⟩

theorem wy_inj (G : TwoG s es ok nx) (he : ok e = true) {K : Nat} (hmin : ∀ i, 0 < i → i < K → (wyS es nx e i).1 ≠ e) {i j : Nat} (hij : i < j) (hj : j < K) : (wyS es nx e i).1 ≠ (wyS es nx e j).1 := fun h => by
  have hi := wyS_ok G he i
  have hj' := wyS_ok G he j
  have on2 : onE es (wyS es nx e j).2 (wyS es nx e i).1 = true := by rw [h]; exact hj'.on
  rcases on_two hi.on on2 with h1 | h1
  · have e3 : wyS es nx e i = wyS es nx e (i + (j - i)) := by rw [show i + (j - i) = j by omega]; exact Prod.ext h h1.symm
    have e4 := wyS_shift G he i (j - i) e3
    exact hmin (j - i) (by omega) (by omega) (by rw [← e4]; rfl)
  · refine wyS_norev G he (j - i) i ?_
    rw [show i + (j - i) = j by omega]
    exact Prod.ext h.symm h1
theorem wy_len (G : TwoG s es ok nx) (he : ok e = true) {K : Nat} (hmin : ∀ i, 0 < i → i < K → (wyS es nx e i).1 ≠ e) : K ≤ es.length := by
  rcases Nat.lt_or_ge es.length K with h | h
  · obtain ⟨i, j, hij, hj, hee⟩ := pigeon es.length (fun i => (wyS es nx e i).1) (fun i _ => G.lt _ (wyS_ok G he i).ok)
    exact absurd hee (wy_inj G he hmin hij (by omega))
  · exact h
/-- The walk is back where it began, on the same side. -/
theorem wy_close (G : TwoG s es ok nx) (he : ok e = true) {K : Nat} (hKe : (wyS es nx e K).1 = e) : wyS es nx e K = wyS es nx e 0 := by
  have hv := wyS_ok G he K
  have on2 : onE es (wyS es nx e K).2 e = true := by have := hv.on; rwa [hKe] at this
  rcases on_two (u := eB es e) (by simp [onE]) on2 with h1 | h1
  · exact Prod.ext hKe h1
  · refine absurd ?_ (wyS_norev G he K 0)
    rw [Nat.zero_add]
    exact Prod.ext hKe h1

/-- Joined by edges that share vertices. -/
def WyIn (es : List (Int × Int)) (ok : Nat → Bool) (e f : Nat) : Prop := ∀ P : Nat → Prop, P e → (∀ x y (v : Int), P x → ok x = true → ok y = true → onE es v x = true → onE es v y = true → P y) → P f
theorem WyIn.refl (es : List (Int × Int)) (ok : Nat → Bool) (e : Nat) : WyIn es ok e e := fun _ h _ => h
theorem WyIn.next {f h : Nat} {v : Int} (H : WyIn es ok e f) (hf : ok f = true) (hh : ok h = true) (h1 : onE es v f = true) (h2 : onE es v h = true) : WyIn es ok e h := fun P h0 hc => hc f h v (H P h0 hc) hf hh h1 h2
theorem WyIn.trans {f h : Nat} (H : WyIn es ok e f) (K : WyIn es ok f h) : WyIn es ok e h := fun P h0 hc => K P (H P h0 hc) hc
theorem WyIn.symm {f : Nat} (H : WyIn es ok e f) : WyIn es ok f e :=
  H (fun x => WyIn es ok x e) (WyIn.refl es ok e) (fun _ y _ hx h1 h2 h3 h4 => ((WyIn.refl es ok y).next h2 h1 h4 h3).trans hx)
theorem wyE_in (G : TwoG s es ok nx) (he : ok e = true) : ∀ i, WyIn es ok e (wyS es nx e i).1
  | 0 => WyIn.refl es ok e
  | i + 1 => by
    have hv := wyS_ok G he i
    obtain ⟨h1, h2, _⟩ := G.nx_ok _ _ hv.ok hv.on
    exact (wyE_in G he i).next hv.ok h1 hv.on h2
theorem in_wyE (G : TwoG s es ok nx) (he : ok e = true) {K : Nat} (hK : 0 < K) (hKe : (wyS es nx e K).1 = e) {f : Nat} (h : WyIn es ok e f) : ∃ i, i < K ∧ (wyS es nx e i).1 = f := by
  have hKs := wy_close G he hKe
  refine h (fun f => ∃ i, i < K ∧ (wyS es nx e i).1 = f) ⟨0, hK, rfl⟩ ?_
  rintro x y v ⟨i, hi, rfl⟩ hx hy hvx hvy
  have hv := wyS_ok G he i
  rcases on_two hv.on hvx with h1 | h1
  · rcases G.one _ _ _ hx hy hvx hvy with h2 | h2
    · exact ⟨i, hi, h2.symm⟩
    · have h3 : (wyS es nx e (i + 1)).1 = y := by rw [h2, h1]; rfl
      rcases Nat.lt_or_ge (i + 1) K with h4 | h4
      · exact ⟨i + 1, h4, h3⟩
      · rw [show i + 1 = K by omega, hKs] at h3
        exact ⟨0, hK, h3⟩
  · rcases G.one _ _ _ hx hy hvx hvy with h2 | h2
    · exact ⟨i, hi, h2.symm⟩
    · have key : ∀ j, wyS es nx e (j + 1) = wyS es nx e i → (wyS es nx e j).1 = y := by
        intro j hj
        have hb := wyBack_step G (wyS_ok G he j)
        rw [show wyStep es nx (wyS es nx e j) = wyS es nx e (j + 1) from rfl, hj] at hb
        rw [← hb, h2, h1]
        rfl
      rcases Nat.eq_zero_or_pos i with h3 | h3
      · subst h3
        refine ⟨K - 1, by omega, key (K - 1) ?_⟩
        rw [show K - 1 + 1 = K by omega]
        exact hKs
      · refine ⟨i - 1, by omega, key (i - 1) ?_⟩
        rw [show i - 1 + 1 = i by omega]
end

end Go.Proofs.Ythacpadadccioaa
