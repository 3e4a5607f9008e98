/- The cycles that a matching leaves, as plain lists. No program is named here. -/
import Derived.Test.YtaafbdpdpndplaaCutA
import Derived.Test.YtaafbdpdpndplaaChnA

/- Matchings as plain lists: which vertices are met by the first edges of a list. No program is named here. -/
namespace Go.Proofs.Ytaafbdpdpndplaa
open Go.RowKit

/-- The vertex v is on one of the first k edges of a list. -/
def metV (es : List (Int × Int)) (xs : List Int) (k : Nat) (v : Int) : Bool := (List.range k).any fun j => onE es v (eI xs j).toNat
/-- The edge at the place i of a list has no vertex of an edge before it. -/
def okMat (es : List (Int × Int)) (xs : List Int) (i : Nat) : Prop := metV es xs i (eA es (eI xs i).toNat) = false ∧ metV es xs i (eB es (eI xs i).toNat) = false
instance (es : List (Int × Int)) (xs : List Int) (i : Nat) : Decidable (okMat es xs i) := by unfold okMat; infer_instance
def isMatP (s : Int) (es : List (Int × Int)) (xs : List Int) : Prop := 2 * (xs.length : Int) = s ∧ isSetP es.length xs ∧ ∀ i, i < xs.length → okMat es xs i
instance (s : Int) (es : List (Int × Int)) (xs : List Int) : Decidable (isMatP s es xs) := by unfold isMatP; infer_instance
def fIsMatching (s : Int) (es : List (Int × Int)) (xs : List Int) : Bool × Int := if IsG s es then (decide (isMatP s es xs), 0) else (false, 1)

def metL (es : List (Int × Int)) (xs : List Int) (M k : Nat) : List Bool := (List.range M).map fun (v : Nat) => metV es xs k (v : Int)
theorem metV_succ (es : List (Int × Int)) (xs : List Int) (k : Nat) (v : Int) : metV es xs (k + 1) v = (metV es xs k v || onE es v (eI xs k).toNat) := by
  unfold metV
  rw [List.range_succ, List.any_append]
  simp
theorem metL_len (es : List (Int × Int)) (xs : List Int) (M k : Nat) : (metL es xs M k).length = M := by simp [metL]
theorem metL_at {es : List (Int × Int)} {xs : List Int} {M k v : Nat} (hv : v < M) : eL (metL es xs M k) v = metV es xs k v := by
  unfold metL
  rw [eL_lt (by simpa using hv)]
  simp
theorem metL_zero (es : List (Int × Int)) (xs : List Int) (M : Nat) : metL es xs M 0 = List.replicate M false := by
  unfold metL
  apply List.ext_getElem
  · simp
  · intro i h1 h2
    simp [metV]
theorem eL_get {xs : List Bool} {i : Nat} (h : i < xs.length) : xs[i] = eL xs i := (eL_lt h).symm
theorem metL_step {es : List (Int × Int)} {xs : List Int} {M k X Y : Nat} (hX : eA es (eI xs k).toNat = X) (hY : eB es (eI xs k).toNat = Y) (hXM : X < M) (hYM : Y < M) :
    ((metL es xs M k).set X true).set Y true = metL es xs M (k + 1) := by
  apply List.ext_getElem
  · simp [metL_len]
  · intro i h1 h2
    have hi : i < M := by rw [metL_len] at h2; exact h2
    rw [eL_get h1, eL_get h2, eL_set (by rw [List.length_set, metL_len]; exact hYM), eL_set (by rw [metL_len]; exact hXM), metL_at hi, metL_at hi, metV_succ]
    unfold onE
    rw [hX, hY]
    by_cases a : i = Y
    · subst a; simp
    · by_cases b : i = X
      · subst b; simp
      · have a' : ¬ (Y : Int) = (i : Int) := by omega
        have b' : ¬ (X : Int) = (i : Int) := by omega
        simp [a, b, a', b']

/-- The ends of an edge, by number. -/
def endM (es : List (Int × Int)) (e k : Nat) : Int := if k = 0 then eA es e else eB es e
/-- The marks while the edge at the place i is looked at: k of its ends are met already. -/
def halfL (es : List (Int × Int)) (xs : List Int) (M i k : Nat) : List Bool := if k = 0 then metL es xs M i else if k = 1 then (metL es xs M i).set (eA es (eI xs i).toNat).toNat true else metL es xs M (i + 1)
theorem halfL_len (es : List (Int × Int)) (xs : List Int) (M i k : Nat) : (halfL es xs M i k).length = M := by
  unfold halfL
  split
  · exact metL_len _ _ _ _
  · split
    · rw [List.length_set, metL_len]
    · exact metL_len _ _ _ _
theorem halfL_step {es : List (Int × Int)} {xs : List Int} {M i k V : Nat} (hk : k < 2) (hV : endM es (eI xs i).toNat k = V) (hVM : V < M) (ha : 0 ≤ eA es (eI xs i).toNat ∧ eA es (eI xs i).toNat < M) : (halfL es xs M i k).set V true = halfL es xs M i (k + 1) := by
  rcases (by omega : k = 0 ∨ k = 1) with rfl | rfl
  · have hV' : eA es (eI xs i).toNat = V := hV
    show (metL es xs M i).set V true = (metL es xs M i).set (eA es (eI xs i).toNat).toNat true
    rw [hV', Int.toNat_natCast]
  · have hV' : eB es (eI xs i).toNat = V := hV
    show ((metL es xs M i).set (eA es (eI xs i).toNat).toNat true).set V true = metL es xs M (i + 1)
    exact metL_step (by omega) hV' (by omega) hVM
theorem halfL_at {es : List (Int × Int)} {xs : List Int} {M i k V : Nat} (hk : k < 2) (hV : endM es (eI xs i).toNat k = V) (hVM : V < M) (ha : 0 ≤ eA es (eI xs i).toNat ∧ eA es (eI xs i).toNat < M) (hne : eA es (eI xs i).toNat ≠ eB es (eI xs i).toNat) : eL (halfL es xs M i k) V = metV es xs i V := by
  rcases (by omega : k = 0 ∨ k = 1) with rfl | rfl
  · exact metL_at hVM
  · have hV' : eB es (eI xs i).toNat = V := hV
    show eL ((metL es xs M i).set (eA es (eI xs i).toNat).toNat true) V = _
    rw [eL_set (by rw [metL_len]; omega), if_neg (by omega)]
    exact metL_at hVM
theorem okMat_ends {es : List (Int × Int)} {xs : List Int} {i : Nat} (h : ∀ k, k < 2 → metV es xs i (endM es (eI xs i).toNat k) = false) : okMat es xs i := ⟨h 0 (by omega), h 1 (by omega)⟩
theorem okMat_not {es : List (Int × Int)} {xs : List Int} {i k : Nat} (hk : k < 2) (h : metV es xs i (endM es (eI xs i).toNat k) = true) : ¬ okMat es xs i := fun hf => by
  rcases (by omega : k = 0 ∨ k = 1) with rfl | rfl
  · have h1 := hf.1
    rw [show eA es (eI xs i).toNat = endM es (eI xs i).toNat 0 from rfl, h] at h1
    exact absurd h1 (by decide)
  · have h1 := hf.2
    rw [show eB es (eI xs i).toNat = endM es (eI xs i).toNat 1 from rfl, h] at h1
    exact absurd h1 (by decide)

end Go.Proofs.Ytaafbdpdpndplaa

/- Walks that never turn back in what has two edges at each vertex: they come back to their first edge, have no edge twice, and have all that is joined to it. No program is named here. -/
namespace Go.Proofs.Ytaafbdpdpndplaa
open Go.RowKit

/-- Some edges, two at each vertex: `nx v f` is the one at v that is not f. -/
structure TwoG (s : Int) (es : List (Int × Int)) (ok : Nat → Bool) (nx : Int → Nat → Nat) : Prop where
  g : IsG s es
  lt : ∀ f, ok f = true → f < es.length
  nx_ok : ∀ v f, ok f = true → onE es v f = true → ok (nx v f) = true ∧ onE es v (nx v f) = true ∧ nx v f ≠ f
  one : ∀ v f h, ok f = true → ok h = true → onE es v f = true → onE es v h = true → h = f ∨ h = nx v f

def wyStep (es : List (Int × Int)) (nx : Int → Nat → Nat) (st : Nat × Int) : Nat × Int := (nx st.2 st.1, othE es st.2 (nx st.2 st.1))
/-- The walk from the edge e on, over its second end. -/
def wyS (es : List (Int × Int)) (nx : Int → Nat → Nat) (e : Nat) : Nat → Nat × Int
  | 0 => (e, eB es e)
  | i + 1 => wyStep es nx (wyS es nx e i)
def wyBack (es : List (Int × Int)) (nx : Int → Nat → Nat) (st : Nat × Int) : Nat × Int := (nx (othE es st.2 st.1) st.1, othE es st.2 st.1)
structure WyV (es : List (Int × Int)) (ok : Nat → Bool) (st : Nat × Int) : Prop where
  ok : ok st.1 = true
  on : onE es st.2 st.1 = true

section
variable {s : Int} {es : List (Int × Int)} {ok : Nat → Bool} {nx : Int → Nat → Nat} {e : Nat} {st : Nat × Int}
theorem TwoG.back (G : TwoG s es ok nx) {v : Int} {f : Nat} (hf : ok f = true) (ho : onE es v f = true) : nx v (nx v f) = f := by
  obtain ⟨h1, h2, h3⟩ := G.nx_ok v f hf ho
  rcases G.one v (nx v f) f h1 hf h2 ho with h | h
  · exact absurd h.symm h3
  · exact h.symm
theorem WyV.step (G : TwoG s es ok nx) (h : WyV es ok st) : WyV es ok (wyStep es nx st) := by
  obtain ⟨h1, h2, _⟩ := G.nx_ok st.2 st.1 h.ok h.on
  exact ⟨h1, oth_on h2⟩
theorem wyS_ok (G : TwoG s es ok nx) (he : ok e = true) : ∀ i, WyV es ok (wyS es nx e i)
  | 0 => ⟨he, by show onE es (eB es e) e = true; simp [onE]⟩
  | i + 1 => (wyS_ok G he i).step G
theorem wyBack_step (G : TwoG s es ok nx) (h : WyV es ok st) : wyBack es nx (wyStep es nx st) = st := by
  unfold wyBack wyStep
  dsimp only
  rw [oth_oth, G.back h.ok h.on]
theorem wyBack_rev : wyBack es nx (chRev es st) = chRev es (wyStep es nx st) := by
  unfold wyBack chRev wyStep
  dsimp only
  rw [oth_oth, oth_oth]
theorem wyS_norev (G : TwoG s es ok nx) (he : ok e = true) : ∀ k i, wyS es nx e (i + k) ≠ chRev es (wyS es nx e i)
  | 0, i => fun h => by
    have hv := wyS_ok G he i
    exact oth_ne G.g (G.lt _ hv.ok) hv.on (congrArg Prod.snd h).symm
  | 1, i => fun h => by
    have hv := wyS_ok G he i
    exact (G.nx_ok _ _ hv.ok hv.on).2.2 (congrArg Prod.fst h)
  | k + 2, i => fun h => by
    have hv := wyS_ok G he (i + k + 1)
    have h1 : wyBack es nx (wyS es nx e (i + (k + 2))) = wyS es nx e (i + k + 1) := wyBack_step G hv
    rw [h, wyBack_rev] at h1
    have h2 : wyS es nx e (i + 1 + k) = chRev es (wyS es nx e (i + 1)) := by
      rw [show i + 1 + k = i + k + 1 by omega, ← h1]
      rfl
    exact wyS_norev G he k (i + 1) h2
theorem wyS_shift (G : TwoG s es ok nx) (he : ok e = true) : ∀ i j, wyS es nx e i = wyS es nx e (i + j) → wyS es nx e 0 = wyS es nx e j
  | 0, j, h => by rwa [Nat.zero_add] at h
  | i + 1, j, h => by
    refine wyS_shift G he i j ?_
    have h1 := wyBack_step G (wyS_ok G he i)
    have h2 := wyBack_step G (wyS_ok G he (i + j))
    rw [show i + 1 + j = (i + j) + 1 by omega] at h
    have h3 : wyStep es nx (wyS es nx e i) = wyStep es nx (wyS es nx e (i + j)) := h
    rw [← h1, ← h2, h3]
theorem wyS_rng (G : TwoG s es ok nx) (h : WyV es ok st) : 0 ≤ st.2 ∧ st.2 < s := by
  have := oth_in' G.g (G.lt _ h.ok) (oth_on h.on)
  rwa [oth_oth] at this

theorem wy_end (G : TwoG s es ok nx) (he : ok e = true) : ∃ K, 0 < K ∧ (wyS es nx e K).1 = e ∧ ∀ i, 0 < i → i < K → (wyS es nx e i).1 ≠ e := by
  have h0 := G.g.1.1.1
  obtain ⟨N, rfl⟩ : ∃ N : Nat, s = N := ⟨_, (Int.toNat_of_nonneg (by omega)).symm⟩
  obtain ⟨i, j, hij, hj, hee⟩ := pigeon (es.length * N) (fun i => (wyS es nx e i).1 * N + (wyS es nx e i).2.toNat) (fun i _ => by
    have hv := wyS_ok G he i
    have h1 := G.lt _ hv.ok
    have h2 := wyS_rng G hv
    have h3 : (wyS es nx e i).1 * N + N ≤ es.length * N := by
      have := Nat.mul_le_mul_right N (show (wyS es nx e i).1 + 1 ≤ es.length by omega)
      rw [Nat.add_mul, Nat.one_mul] at this
      exact this
    omega)
  have hvi := wyS_rng G (wyS_ok G he i)
  have hvj := wyS_rng G (wyS_ok G he j)
  have e1 : (wyS es nx e i).1 = (wyS es nx e j).1 := by
    have hi2 : (wyS es nx e i).2.toNat < N := by omega
    have hj2 : (wyS es nx e j).2.toNat < N := by omega
    have h1 : ((wyS es nx e i).1 * N + (wyS es nx e i).2.toNat) / N = (wyS es nx e i).1 := by
      rw [Nat.mul_comm, Nat.mul_add_div (by omega), Nat.div_eq_of_lt hi2]; rfl
    have h2 : ((wyS es nx e j).1 * N + (wyS es nx e j).2.toNat) / N = (wyS es nx e j).1 := by
      rw [Nat.mul_comm, Nat.mul_add_div (by omega), Nat.div_eq_of_lt hj2]; rfl
    rw [← h1, ← h2, hee]
  have e2 : (wyS es nx e i).2 = (wyS es nx e j).2 := by
    rw [e1] at hee
    omega
  have e3 : wyS es nx e i = wyS es nx e j := Prod.ext e1 e2
  have e4 := wyS_shift G he i (j - i) (by rw [show i + (j - i) = j by omega]; exact e3)
  have e5 : 0 < j - i ∧ (wyS es nx e (j - i)).1 = e := ⟨by omega, by rw [← e4]; rfl⟩
  obtain ⟨K, hK, hmin⟩ := least (P := fun n => 0 < n ∧ (wyS es nx e n).1 = e) (j - i) e5
  exact ⟨K, hK.1, hK.2, fun i h1 h2 h3 => hmin i h2 ⟨h1, h3⟩⟩

theorem wy_inj (G : TwoG s es ok nx) (he : ok e = true) {K : Nat} (hmin : ∀ i, 0 < i → i < K → (wyS es nx e i).1 ≠ e) {i j : Nat} (hij : i < j) (hj : j < K) : (wyS es nx e i).1 ≠ (wyS es nx e j).1 := fun h => by
  have hi := wyS_ok G he i
  have hj' := wyS_ok G he j
  have on2 : onE es (wyS es nx e j).2 (wyS es nx e i).1 = true := by rw [h]; exact hj'.on
  rcases on_two hi.on on2 with h1 | h1
  · have e3 : wyS es nx e i = wyS es nx e (i + (j - i)) := by rw [show i + (j - i) = j by omega]; exact Prod.ext h h1.symm
    have e4 := wyS_shift G he i (j - i) e3
    exact hmin (j - i) (by omega) (by omega) (by rw [← e4]; rfl)
  · refine wyS_norev G he (j - i) i ?_
    rw [show i + (j - i) = j by omega]
    exact Prod.ext h.symm h1
theorem wy_len (G : TwoG s es ok nx) (he : ok e = true) {K : Nat} (hmin : ∀ i, 0 < i → i < K → (wyS es nx e i).1 ≠ e) : K ≤ es.length := by
  rcases Nat.lt_or_ge es.length K with h | h
  · obtain ⟨i, j, hij, hj, hee⟩ := pigeon es.length (fun i => (wyS es nx e i).1) (fun i _ => G.lt _ (wyS_ok G he i).ok)
    exact absurd hee (wy_inj G he hmin hij (by omega))
  · exact h
/-- The walk is back where it began, on the same side. -/
theorem wy_close (G : TwoG s es ok nx) (he : ok e = true) {K : Nat} (hKe : (wyS es nx e K).1 = e) : wyS es nx e K = wyS es nx e 0 := by
  have hv := wyS_ok G he K
  have on2 : onE es (wyS es nx e K).2 e = true := by have := hv.on; rwa [hKe] at this
  rcases on_two (u := eB es e) (by simp [onE]) on2 with h1 | h1
  · exact Prod.ext hKe h1
  · refine absurd ?_ (wyS_norev G he K 0)
    rw [Nat.zero_add]
    exact Prod.ext hKe h1

/-- Joined by edges that share vertices. -/
def WyIn (es : List (Int × Int)) (ok : Nat → Bool) (e f : Nat) : Prop := ∀ P : Nat → Prop, P e → (∀ x y (v : Int), P x → ok x = true → ok y = true → onE es v x = true → onE es v y = true → P y) → P f
theorem WyIn.refl (es : List (Int × Int)) (ok : Nat → Bool) (e : Nat) : WyIn es ok e e := fun _ h _ => h
theorem WyIn.next {f h : Nat} {v : Int} (H : WyIn es ok e f) (hf : ok f = true) (hh : ok h = true) (h1 : onE es v f = true) (h2 : onE es v h = true) : WyIn es ok e h := fun P h0 hc => hc f h v (H P h0 hc) hf hh h1 h2
theorem WyIn.trans {f h : Nat} (H : WyIn es ok e f) (K : WyIn es ok f h) : WyIn es ok e h := fun P h0 hc => K P (H P h0 hc) hc
theorem WyIn.symm {f : Nat} (H : WyIn es ok e f) : WyIn es ok f e :=
  H (fun x => WyIn es ok x e) (WyIn.refl es ok e) (fun _ y _ hx h1 h2 h3 h4 => ((WyIn.refl es ok y).next h2 h1 h4 h3).trans hx)
theorem wyE_in (G : TwoG s es ok nx) (he : ok e = true) : ∀ i, WyIn es ok e (wyS es nx e i).1
  | 0 => WyIn.refl es ok e
  | i + 1 => by
    have hv := wyS_ok G he i
    obtain ⟨h1, h2, _⟩ := G.nx_ok _ _ hv.ok hv.on
    exact (wyE_in G he i).next hv.ok h1 hv.on h2
theorem in_wyE (G : TwoG s es ok nx) (he : ok e = true) {K : Nat} (hK : 0 < K) (hKe : (wyS es nx e K).1 = e) {f : Nat} (h : WyIn es ok e f) : ∃ i, i < K ∧ (wyS es nx e i).1 = f := by
  have hKs := wy_close G he hKe
  refine h (fun f => ∃ i, i < K ∧ (wyS es nx e i).1 = f) ⟨0, hK, rfl⟩ ?_
  rintro x y v ⟨i, hi, rfl⟩ hx hy hvx hvy
  have hv := wyS_ok G he i
  rcases on_two hv.on hvx with h1 | h1
  · rcases G.one _ _ _ hx hy hvx hvy with h2 | h2
    · exact ⟨i, hi, h2.symm⟩
    · have h3 : (wyS es nx e (i + 1)).1 = y := by rw [h2, h1]; rfl
      rcases Nat.lt_or_ge (i + 1) K with h4 | h4
      · exact ⟨i + 1, h4, h3⟩
      · rw [show i + 1 = K by omega, hKs] at h3
        exact ⟨0, hK, h3⟩
  · rcases G.one _ _ _ hx hy hvx hvy with h2 | h2
    · exact ⟨i, hi, h2.symm⟩
    · have key : ∀ j, wyS es nx e (j + 1) = wyS es nx e i → (wyS es nx e j).1 = y := by
        intro j hj
        have hb := wyBack_step G (wyS_ok G he j)
        rw [show wyStep es nx (wyS es nx e j) = wyS es nx e (j + 1) from rfl, hj] at hb
        rw [← hb, h2, h1]
        rfl
      rcases Nat.eq_zero_or_pos i with h3 | h3
      · subst h3
        refine ⟨K - 1, by omega, key (K - 1) ?_⟩
        rw [show K - 1 + 1 = K by omega]
        exact hKs
      · refine ⟨i - 1, by omega, key (i - 1) ?_⟩
        rw [show i - 1 + 1 = i by omega]
end

end Go.Proofs.Ytaafbdpdpndplaa

namespace Go.Proofs.Ytaafbdpdpndplaa
open Go.RowKit

/-- The edge f is not in the matching. -/
def freeB (es : List (Int × Int)) (xs : List Int) (f : Nat) : Bool := decide (f < es.length) && !decide ((f : Int) ∈ xs)
def nxF (es : List (Int × Int)) (xs : List Int) (v : Int) (f : Nat) : Nat := ((onL es v).find? fun y => freeB es xs y && y != f).getD 0

section
variable {s : Int} {es : List (Int × Int)} {xs : List Int}
theorem freeB_iff {f : Nat} : freeB es xs f = true ↔ f < es.length ∧ (f : Int) ∉ xs := by
  unfold freeB
  simp
theorem mat_at (m : isMatP s es xs) {i : Nat} (hi : i < xs.length) : ∃ X : Nat, eI xs i = X ∧ X < es.length := by
  have h := (m.2.1 i hi).1
  exact ⟨(eI xs i).toNat, (Int.toNat_of_nonneg h.1).symm, by omega⟩
theorem endM_on (es : List (Int × Int)) (e k : Nat) : onE es (endM es e k) e = true := by
  unfold endM onE
  split <;> simp
theorem endM_rng (g : IsG s es) {e k : Nat} (he : e < es.length) : 0 ≤ endM es e k ∧ endM es e k < s := by
  have h1 := g.1.2 e he
  unfold endM
  split
  · exact ⟨h1.1, h1.2.1⟩
  · exact ⟨h1.2.2.1, h1.2.2.2.1⟩
/-- An end of an edge of the matching is on no other edge of it. -/
theorem mat_apart (m : isMatP s es xs) {i j k : Nat} (hij : i < j) (hj : j < xs.length) (h : onE es (endM es (eI xs j).toNat k) (eI xs i).toNat = true) : False := by
  have hm : metV es xs j (endM es (eI xs j).toNat k) = true := by
    unfold metV
    rw [List.any_eq_true]
    exact ⟨i, List.mem_range.2 hij, h⟩
  have ho := m.2.2 j hj
  unfold endM at hm
  split at hm
  · rw [ho.1] at hm; exact absurd hm (by decide)
  · rw [ho.2] at hm; exact absurd hm (by decide)
theorem on_end {v : Int} {e : Nat} (h : onE es v e = true) : ∃ k, k < 2 ∧ v = endM es e k := by
  unfold onE at h
  by_cases h1 : eA es e = v
  · exact ⟨0, by omega, h1.symm⟩
  · have h2 : eB es e = v := by simpa [h1] using h
    exact ⟨1, by omega, h2.symm⟩
/-- Two edges of the matching at one vertex are one. -/
theorem mat_one (m : isMatP s es xs) {v : Int} {e f : Nat} (he : (e : Int) ∈ xs) (hf : (f : Int) ∈ xs) (h1 : onE es v e = true) (h2 : onE es v f = true) : e = f := by
  obtain ⟨i, hi, ei⟩ := List.getElem_of_mem he
  obtain ⟨j, hj, ej⟩ := List.getElem_of_mem hf
  rw [← eI_lt hi] at ei
  rw [← eI_lt hj] at ej
  obtain ⟨a, _, ha⟩ := on_end h1
  obtain ⟨b, _, hb⟩ := on_end h2
  rcases Nat.lt_trichotomy i j with h | h | h
  · refine (mat_apart (k := b) m h hj ?_).elim
    rw [ej, ei, Int.toNat_natCast, Int.toNat_natCast, ← hb]
    exact h1
  · subst h
    omega
  · refine (mat_apart (k := a) m h hi ?_).elim
    rw [ej, ei, Int.toNat_natCast, Int.toNat_natCast, ← ha]
    exact h2
/-- Each vertex is on an edge of the matching. -/
theorem mat_cover (g : IsG s es) (m : isMatP s es xs) {v : Int} (hv : 0 ≤ v ∧ v < s) : ∃ e : Nat, e < es.length ∧ (e : Int) ∈ xs ∧ onE es v e = true := by
  refine Classical.byContradiction fun hno => ?_
  have hns : ∀ j, j < xs.length → onE es v (eI xs j).toNat = false := fun j hj => by
    obtain ⟨X, hX, hXl⟩ := mat_at m hj
    cases h : onE es v (eI xs j).toNat
    · rfl
    · rw [hX, Int.toNat_natCast] at h
      exact absurd ⟨X, hXl, by rw [← hX]; exact eI_mem hj, h⟩ hno
  obtain ⟨N, rfl⟩ : ∃ N : Nat, s = N := ⟨_, (Int.toNat_of_nonneg (by omega)).symm⟩
  have hN : 2 * xs.length = N := by have := m.1; omega
  have hE : ∀ i, i < N → 0 ≤ endM es (eI xs (i / 2)).toNat (i % 2) ∧ endM es (eI xs (i / 2)).toNat (i % 2) < N ∧ endM es (eI xs (i / 2)).toNat (i % 2) ≠ v := fun i hi => by
    obtain ⟨X, hX, hXl⟩ := mat_at m (i := i / 2) (by omega)
    have h1 := endM_rng (k := i % 2) g (e := (eI xs (i / 2)).toNat) (by rw [hX, Int.toNat_natCast]; exact hXl)
    refine ⟨h1.1, h1.2, fun e => ?_⟩
    have h2 := hns (i / 2) (by omega)
    rw [← e, endM_on] at h2
    exact absurd h2 (by decide)
  obtain ⟨i, j, hij, hj, he⟩ := pigeon (N - 1) (fun i => if endM es (eI xs (i / 2)).toNat (i % 2) < v then (endM es (eI xs (i / 2)).toNat (i % 2)).toNat else (endM es (eI xs (i / 2)).toNat (i % 2)).toNat - 1) (fun i hi => by
    have h := hE i (by omega)
    split <;> omega)
  have hi1 := hE i (by omega)
  have hj1 := hE j (by omega)
  have hee : endM es (eI xs (i / 2)).toNat (i % 2) = endM es (eI xs (j / 2)).toNat (j % 2) := by
    split at he <;> split at he <;> omega
  rcases Nat.lt_or_ge (i / 2) (j / 2) with h | h
  · refine mat_apart (k := j % 2) m h (by omega) ?_
    rw [← hee]
    exact endM_on _ _ _
  · have h2 : i / 2 = j / 2 := by omega
    rw [h2] at hee
    have h3 : i % 2 = 0 ∧ j % 2 = 1 := by omega
    rw [h3.1, h3.2] at hee
    obtain ⟨X, hX, hXl⟩ := mat_at m (i := j / 2) (by omega)
    exact isG_ne g (i := (eI xs (j / 2)).toNat) (by rw [hX, Int.toNat_natCast]; exact hXl) hee

theorem twoF (g : IsG s es) (m : isMatP s es xs) : TwoG s es (freeB es xs) (nxF es xs) := by
  have base : ∀ v f, freeB es xs f = true → onE es v f = true → ∃ h, freeB es xs h = true ∧ onE es v h = true ∧ h ≠ f ∧ ∀ y, freeB es xs y = true → onE es v y = true → y = f ∨ y = h := by
    intro v f hf ho
    obtain ⟨hfl, hfx⟩ := freeB_iff.1 hf
    have hv : 0 ≤ v ∧ v < s := by
      obtain ⟨k, _, hk⟩ := on_end ho
      rw [hk]
      exact endM_rng g hfl
    obtain ⟨q, hq1, hq2, hq3⟩ := mat_cover g m hv
    obtain ⟨x, y, z, hL, n1, n2, n3⟩ := onL_three g hv
    have mem : ∀ t, onE es v t = true → t < es.length → t = x ∨ t = y ∨ t = z := fun t h1 h2 => by
      have := onL_mem.2 ⟨h2, h1⟩
      rw [hL] at this
      simpa using this
    have hx := onL_mem.1 (show x ∈ onL es v by rw [hL]; simp)
    have hy := onL_mem.1 (show y ∈ onL es v by rw [hL]; simp)
    have hz := onL_mem.1 (show z ∈ onL es v by rw [hL]; simp)
    have fr : ∀ t, t < es.length → onE es v t = true → t ≠ q → freeB es xs t = true := fun t h1 h2 h3 => freeB_iff.2 ⟨h1, fun h => h3 (mat_one m h hq2 h2 hq3)⟩
    have nf : ∀ t, freeB es xs t = true → t ≠ q := fun t h1 e => (freeB_iff.1 h1).2 (by rw [e]; exact hq2)
    have hfq := nf f hf
    have a1 := mem q hq3 hq1
    have a2 := mem f ho hfl
    have pick : ∃ h, (h = x ∨ h = y ∨ h = z) ∧ h ≠ q ∧ h ≠ f ∧ (x = q ∨ x = f ∨ x = h) ∧ (y = q ∨ y = f ∨ y = h) ∧ (z = q ∨ z = f ∨ z = h) := by
      rcases a1 with rfl | rfl | rfl <;> rcases a2 with rfl | rfl | rfl
      · omega
      · exact ⟨z, by simp, by omega, by omega, by simp, by simp, by simp⟩
      · exact ⟨y, by simp, by omega, by omega, by simp, by simp, by simp⟩
      · exact ⟨z, by simp, by omega, by omega, by simp, by simp, by simp⟩
      · omega
      · exact ⟨x, by simp, by omega, by omega, by simp, by simp, by simp⟩
      · exact ⟨y, by simp, by omega, by omega, by simp, by simp, by simp⟩
      · exact ⟨x, by simp, by omega, by omega, by simp, by simp, by simp⟩
      · omega
    obtain ⟨h, b1, b2, b3, b4, b5, b6⟩ := pick
    have hh : h < es.length ∧ onE es v h = true := by rcases b1 with rfl | rfl | rfl <;> assumption
    refine ⟨h, fr h hh.1 hh.2 b2, hh.2, b3, fun t h1 h2 => ?_⟩
    have c1 := nf t h1
    rcases mem t h2 (freeB_iff.1 h1).1 with rfl | rfl | rfl
    · exact (b4.resolve_left c1)
    · exact (b5.resolve_left c1)
    · exact (b6.resolve_left c1)
  have spec : ∀ v f h, freeB es xs f = true → onE es v f = true → freeB es xs h = true → onE es v h = true → h ≠ f → (∀ y, freeB es xs y = true → onE es v y = true → y = f ∨ y = h) → nxF es xs v f = h := by
    intro v f h hf ho hh hho hne hall
    unfold nxF
    cases hfd : (onL es v).find? fun y => freeB es xs y && y != f with
    | none =>
      have := List.find?_eq_none.1 hfd h (onL_mem.2 ⟨(freeB_iff.1 hh).1, hho⟩)
      simp [hh, hne] at this
    | some y =>
      have hp := List.find?_some hfd
      have hmm := onL_mem.1 (List.mem_of_find?_eq_some hfd)
      simp at hp
      rcases hall y hp.1 hmm.2 with e | e
      · exact absurd e hp.2
      · simpa using e
  refine ⟨g, fun f hf => (freeB_iff.1 hf).1, fun v f hf ho => ?_, fun v f h hf hh ho hho => ?_⟩
  · obtain ⟨h, h1, h2, h3, h4⟩ := base v f hf ho
    rw [spec v f h hf ho h1 h2 h3 h4]
    exact ⟨h1, h2, h3⟩
  · obtain ⟨h', h1, h2, h3, h4⟩ := base v f hf ho
    rw [spec v f h' hf ho h1 h2 h3 h4]
    exact h4 h hh hho
end

/-- How many edges the cycle of e has, and these, from e on. -/
def cyK (es : List (Int × Int)) (nx : Int → Nat → Nat) (e : Nat) : Nat := ((List.range (es.length + 1)).find? fun i => decide (0 < i) && (wyS es nx e i).1 == e).getD 0
def cyP (es : List (Int × Int)) (nx : Int → Nat → Nat) (e k : Nat) : List Int := (List.range k).map fun i => ((wyS es nx e i).1 : Int)
def cyL (es : List (Int × Int)) (nx : Int → Nat → Nat) (e : Nat) : List Int := cyP es nx e (cyK es nx e)
theorem cyP_succ (es : List (Int × Int)) (nx : Int → Nat → Nat) (e k : Nat) : cyP es nx e (k + 1) = cyP es nx e k ++ [((wyS es nx e k).1 : Int)] := by
  unfold cyP
  rw [List.range_succ, List.map_append]
  rfl
theorem cyP_len (es : List (Int × Int)) (nx : Int → Nat → Nat) (e k : Nat) : (cyP es nx e k).length = k := by simp [cyP]
theorem cyP_mem {es : List (Int × Int)} {nx : Int → Nat → Nat} {e k f : Nat} : (f : Int) ∈ cyP es nx e k ↔ ∃ i, i < k ∧ (wyS es nx e i).1 = f := by
  unfold cyP
  simp only [List.mem_map, List.mem_range]
  constructor
  · rintro ⟨i, h, hi⟩
    exact ⟨i, h, by omega⟩
  · rintro ⟨i, h, hi⟩
    exact ⟨i, h, by omega⟩

section
variable {s : Int} {es : List (Int × Int)} {ok : Nat → Bool} {nx : Int → Nat → Nat}
theorem cyK_spec (G : TwoG s es ok nx) {e : Nat} (he : ok e = true) : 0 < cyK es nx e ∧ cyK es nx e ≤ es.length ∧ (wyS es nx e (cyK es nx e)).1 = e ∧ ∀ i, 0 < i → i < cyK es nx e → (wyS es nx e i).1 ≠ e := by
  obtain ⟨K, hK, hKe, hmin⟩ := wy_end G he
  have hKl := wy_len G he hmin
  have hk : cyK es nx e = K := by
    unfold cyK
    cases hf : (List.range (es.length + 1)).find? fun i => decide (0 < i) && (wyS es nx e i).1 == e with
    | none =>
      have := List.find?_eq_none.1 hf K (List.mem_range.2 (by omega))
      simp [hK, hKe] at this
    | some k =>
      have hp := List.find?_some hf
      simp at hp
      obtain ⟨hp1, hp2⟩ := hp
      rcases Nat.lt_trichotomy k K with h | h | h
      · exact absurd hp2 (hmin k hp1 h)
      · exact h
      · have h3 := List.find?_eq_some_iff_append.1 hf
        obtain ⟨_, us, vs, hab, hall⟩ := h3
        have hmem : K ∈ us := by
          have hr : (List.range (es.length + 1))[us.length]? = some k := by rw [hab]; simp
          have hr2 : us.length = k := by
            have := (List.getElem?_eq_some_iff.1 hr)
            obtain ⟨h1, h2⟩ := this
            simpa using h2
          have hlt : K < us.length := by omega
          have : us[K]? = (List.range (es.length + 1))[K]? := by rw [hab, List.getElem?_append_left hlt]
          rw [List.getElem?_eq_getElem hlt, List.getElem?_eq_getElem (by simp; omega)] at this
          have h4 : us[K] = K := by simpa using Option.some.inj this
          rw [← h4]
          exact List.getElem_mem hlt
        have := hall K hmem
        simp [hK, hKe] at this
  rw [hk]
  exact ⟨hK, hKl, hKe, hmin⟩
theorem cyL_mem (G : TwoG s es ok nx) {e f : Nat} (he : ok e = true) : (f : Int) ∈ cyL es nx e ↔ WyIn es ok e f := by
  obtain ⟨h1, _, h3, _⟩ := cyK_spec G he
  unfold cyL
  rw [cyP_mem]
  constructor
  · rintro ⟨i, _, rfl⟩
    exact wyE_in G he i
  · intro h
    exact in_wyE G he h1 h3 h

/-- The edge f is in a cycle of one of the first k edges. -/
def metC (es : List (Int × Int)) (ok : Nat → Bool) (nx : Int → Nat → Nat) (k f : Nat) : Bool := (List.range k).any fun e => ok e && decide ((f : Int) ∈ cyL es nx e)
def leadC (es : List (Int × Int)) (ok : Nat → Bool) (nx : Int → Nat → Nat) (e : Nat) : Bool := ok e && !metC es ok nx e e
/-- The cycles, each from its least edge on. -/
def cyU (es : List (Int × Int)) (ok : Nat → Bool) (nx : Int → Nat → Nat) (k : Nat) : List (List Int) := ((List.range k).filter (leadC es ok nx)).map (cyL es nx)
theorem metC_succ (es : List (Int × Int)) (ok : Nat → Bool) (nx : Int → Nat → Nat) (k f : Nat) : metC es ok nx (k + 1) f = (metC es ok nx k f || (ok k && decide ((f : Int) ∈ cyL es nx k))) := by
  unfold metC
  rw [List.range_succ, List.any_append]
  simp
theorem metC_iff (G : TwoG s es ok nx) {k f : Nat} : metC es ok nx k f = true ↔ ∃ e, e < k ∧ ok e = true ∧ WyIn es ok e f := by
  unfold metC
  rw [List.any_eq_true]
  constructor
  · rintro ⟨e, he, h⟩
    rw [Bool.and_eq_true] at h
    exact ⟨e, List.mem_range.1 he, h.1, (cyL_mem G h.1).1 (by simpa using h.2)⟩
  · rintro ⟨e, he, ho, h⟩
    exact ⟨e, List.mem_range.2 he, by rw [ho]; simpa using (cyL_mem G ho).2 h⟩
/-- An edge that is not new changes no mark. -/
theorem metC_old (G : TwoG s es ok nx) {k : Nat} (h : leadC es ok nx k = false) (f : Nat) : metC es ok nx (k + 1) f = metC es ok nx k f := by
  rw [metC_succ]
  cases ho : ok k
  · simp
  · unfold leadC at h
    rw [ho] at h
    have hm : metC es ok nx k k = true := by simpa using h
    obtain ⟨e, he, heo, hin⟩ := (metC_iff G).1 hm
    cases hb : decide ((f : Int) ∈ cyL es nx k)
    · simp
    · have h1 := (cyL_mem G ho).1 (of_decide_eq_true hb)
      rw [(metC_iff G).2 ⟨e, he, heo, hin.trans h1⟩]
      rfl
/-- None of a new edge's cycle is marked. -/
theorem metC_new (G : TwoG s es ok nx) {k : Nat} (h : leadC es ok nx k = true) (i : Nat) : metC es ok nx k (wyS es nx k i).1 = false := by
  unfold leadC at h
  rw [Bool.and_eq_true] at h
  cases hm : metC es ok nx k (wyS es nx k i).1
  · rfl
  · obtain ⟨e, he, heo, hin⟩ := (metC_iff G).1 hm
    have h2 : metC es ok nx k k = true := (metC_iff G).2 ⟨e, he, heo, hin.trans (wyE_in G h.1 i).symm⟩
    rw [h2] at h
    exact absurd h.2 (by decide)
theorem cyU_yes {k : Nat} (h : leadC es ok nx k = true) : cyU es ok nx (k + 1) = cyU es ok nx k ++ [cyL es nx k] := by
  unfold cyU
  rw [List.range_succ, List.filter_append, List.map_append]
  simp [h]
theorem cyU_no {k : Nat} (h : leadC es ok nx k = false) : cyU es ok nx (k + 1) = cyU es ok nx k := by
  unfold cyU
  rw [List.range_succ, List.filter_append, List.map_append]
  simp [h]
theorem cyU_len (es : List (Int × Int)) (ok : Nat → Bool) (nx : Int → Nat → Nat) (k : Nat) : (cyU es ok nx k).length ≤ k := by
  unfold cyU
  rw [List.length_map]
  exact Nat.le_trans (List.length_filter_le _ _) (by simp)
end

end Go.Proofs.Ytaafbdpdpndplaa
