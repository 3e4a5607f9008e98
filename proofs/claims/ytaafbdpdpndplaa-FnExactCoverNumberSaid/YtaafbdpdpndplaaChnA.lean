/- Chains of two colours: the walk along a chain comes back to its first edge, has no edge twice, and has all of the chain. No program is named here. -/
import Derived.Test.YtaafbdpdpndplaaFar
namespace Go.Proofs.Ytaafbdpdpndplaa
open Go.RowKit

/-- Among n and one numbers below n two are equal. -/
theorem pigeon : ∀ (n : Nat) (f : Nat → Nat), (∀ i, i ≤ n → f i < n) → ∃ i j, i < j ∧ j ≤ n ∧ f i = f j
  | 0, f, h => absurd (h 0 (Nat.le_refl _)) (by omega)
  | n + 1, f, h => by
    by_cases hx : ∃ i, i ≤ n ∧ f i = f (n + 1)
    · obtain ⟨i, hi, e⟩ := hx
      exact ⟨i, n + 1, by omega, Nat.le_refl _, e⟩
    · have hne : ∀ i, i ≤ n → f i ≠ f (n + 1) := fun i hi e => hx ⟨i, hi, e⟩
      have hy := h (n + 1) (Nat.le_refl _)
      have IH := pigeon n (fun i => if f i = n then f (n + 1) else f i) (fun i hi => by
        have h1 := h i (by omega)
        have h2 := hne i hi
        show (if f i = n then f (n + 1) else f i) < n
        split <;> omega)
      obtain ⟨i, j, hij, hj, e⟩ := IH
      refine ⟨i, j, hij, by omega, ?_⟩
      have h1 := hne i (by omega)
      have h2 := hne j hj
      split at e <;> split at e <;> omega
theorem least {P : Nat → Prop} : ∀ n, P n → ∃ k, P k ∧ ∀ i, i < k → ¬ P i := by
  intro n
  induction n using Nat.strongRecOn with
  | _ n IH =>
    intro h
    by_cases hx : ∃ i, i < n ∧ P i
    · obtain ⟨i, hi, hp⟩ := hx
      exact IH i hi hp
    · exact ⟨n, h, fun i hi hp => hx ⟨i, hi, hp⟩⟩

theorem onL_three {s : Int} {es : List (Int × Int)} (h : IsG s es) {v : Int} (hv : 0 ≤ v ∧ v < s) : ∃ x y z, onL es v = [x, y, z] ∧ x ≠ y ∧ x ≠ z ∧ y ≠ z := by
  have h1 := atF_three h hv.1 hv.2
  rw [onL_at, List.length_map] at h1
  have h2 : (onL es v).Nodup := (List.nodup_range (n := es.length)).filter _
  match hL : onL es v, h1, h2 with
  | [x, y, z], _, h2 =>
    refine ⟨x, y, z, rfl, ?_⟩
    simp at h2
    omega

theorem oth_on {es : List (Int × Int)} {v : Int} {e : Nat} (ho : onE es v e = true) : onE es (othE es v e) e = true := by
  unfold onE at ho ⊢
  unfold othE
  by_cases h : eA es e = v
  · subst h
    simp only [Bool.or_eq_true, beq_iff_eq]
    right; omega
  · have h2 : eB es e = v := by simpa [h] using ho
    subst h2
    simp only [Bool.or_eq_true, beq_iff_eq]
    left; omega
theorem oth_oth (es : List (Int × Int)) (v : Int) (e : Nat) : othE es (othE es v e) e = v := by unfold othE; omega
theorem oth_ne {s : Int} {es : List (Int × Int)} (h : IsG s es) {v : Int} {e : Nat} (he : e < es.length) (ho : onE es v e = true) : othE es v e ≠ v := by
  have h1 := isG_ne h he
  unfold onE at ho
  unfold othE
  by_cases h : eA es e = v
  · omega
  · have h2 : eB es e = v := by simpa [h] using ho
    omega
theorem on_two {es : List (Int × Int)} {u v : Int} {e : Nat} (hu : onE es u e = true) (hv : onE es v e = true) : v = u ∨ v = othE es u e := by
  unfold onE at hu hv
  unfold othE
  simp at hu hv
  omega

theorem col_one {s : Int} {es : List (Int × Int)} {cs : List Int} (_g : IsG s es) (gc : isColP es cs) {v : Int} {e f : Nat} (he : e < es.length) (hf : f < es.length) (h1 : onE es v e = true) (h2 : onE es v f = true) (hc : eI cs e = eI cs f) : e = f := by
  have key : ∀ {e f : Nat}, e < es.length → f < es.length → onE es v e = true → onE es v f = true → eI cs e = eI cs f → e < f → False := by
    intro e f he hf h1 h2 hc hlt
    refine (gc.2 f hf).2 e hlt ?_ hc
    unfold onE at h2
    by_cases h : eA es f = v
    · left; rw [h]; exact h1
    · have h3 : eB es f = v := by simpa [h] using h2
      right; rw [h3]; exact h1
  rcases Nat.lt_trichotomy e f with h | h | h
  · exact (key he hf h1 h2 hc h).elim
  · exact h
  · exact (key hf he h2 h1 hc.symm h).elim
theorem col_has {s : Int} {es : List (Int × Int)} {cs : List Int} (g : IsG s es) (gc : isColP es cs) {v : Int} (hv : 0 ≤ v ∧ v < s) {c : Int} (hc : 0 ≤ c ∧ c < 3) : ∃ e, e < es.length ∧ onE es v e = true ∧ eI cs e = c := by
  obtain ⟨x, y, z, hL, h1, h2, h3⟩ := onL_three g hv
  have hx := onL_mem.1 (show x ∈ onL es v by rw [hL]; simp)
  have hy := onL_mem.1 (show y ∈ onL es v by rw [hL]; simp)
  have hz := onL_mem.1 (show z ∈ onL es v by rw [hL]; simp)
  have cx := (gc.2 x hx.1).1
  have cy := (gc.2 y hy.1).1
  have cz := (gc.2 z hz.1).1
  have n1 : eI cs x ≠ eI cs y := fun e => h1 (col_one g gc hx.1 hy.1 hx.2 hy.2 e)
  have n2 : eI cs x ≠ eI cs z := fun e => h2 (col_one g gc hx.1 hz.1 hx.2 hz.2 e)
  have n3 : eI cs y ≠ eI cs z := fun e => h3 (col_one g gc hy.1 hz.1 hy.2 hz.2 e)
  rcases (by omega : eI cs x = c ∨ eI cs y = c ∨ eI cs z = c) with h | h | h
  · exact ⟨x, hx.1, hx.2, h⟩
  · exact ⟨y, hy.1, hy.2, h⟩
  · exact ⟨z, hz.1, hz.2, h⟩

/-- The edge with a colour at a vertex. -/
def colAt (es : List (Int × Int)) (cs : List Int) (v col : Int) : Nat := ((List.range es.length).find? fun e => onE es v e && eI cs e == col).getD 0
theorem colAt_spec {s : Int} {es : List (Int × Int)} {cs : List Int} (g : IsG s es) (gc : isColP es cs) {v : Int} (hv : 0 ≤ v ∧ v < s) {c : Int} (hc : 0 ≤ c ∧ c < 3) : colAt es cs v c < es.length ∧ onE es v (colAt es cs v c) = true ∧ eI cs (colAt es cs v c) = c := by
  obtain ⟨e, h1, h2, h3⟩ := col_has g gc hv hc
  unfold colAt
  cases hf : (List.range es.length).find? fun e => onE es v e && eI cs e == c with
  | none =>
    have := List.find?_eq_none.1 hf e (List.mem_range.2 h1)
    simp [h2, h3] at this
  | some x =>
    have hp := List.find?_some hf
    have hm := List.mem_range.1 (List.mem_of_find?_eq_some hf)
    simp at hp
    exact ⟨hm, hp.1, hp.2⟩
theorem colAt_eq {s : Int} {es : List (Int × Int)} {cs : List Int} (g : IsG s es) (gc : isColP es cs) {v : Int} (hv : 0 ≤ v ∧ v < s) {f : Nat} (hf : f < es.length) (ho : onE es v f = true) : colAt es cs v (eI cs f) = f := by
  obtain ⟨h1, h2, h3⟩ := colAt_spec g gc hv (gc.2 f hf).1
  exact col_one g gc h1 hf h2 ho h3

/-- The walk along a chain: the edge, and the vertex at its end. `d` is the sum of both colours. -/
def chStep (es : List (Int × Int)) (cs : List Int) (d : Int) (st : Nat × Int) : Nat × Int := (colAt es cs st.2 (d - eI cs st.1), othE es st.2 (colAt es cs st.2 (d - eI cs st.1)))
def chS (es : List (Int × Int)) (cs : List Int) (d : Int) (e : Nat) : Nat → Nat × Int
  | 0 => (e, eA es e)
  | i + 1 => chStep es cs d (chS es cs d e i)
def chRev (es : List (Int × Int)) (st : Nat × Int) : Nat × Int := (st.1, othE es st.2 st.1)
def chBack (es : List (Int × Int)) (cs : List Int) (d : Int) (st : Nat × Int) : Nat × Int := (colAt es cs (othE es st.2 st.1) (d - eI cs st.1), othE es st.2 st.1)

/-- What a chain is asked of. -/
structure ChG (s : Int) (es : List (Int × Int)) (cs : List Int) (d : Int) (e : Nat) : Prop where
  g : IsG s es
  gc : isColP es cs
  he : e < es.length
  hb : 0 ≤ d - eI cs e ∧ d - eI cs e < 3
  hne : d - eI cs e ≠ eI cs e
structure ChV (s : Int) (es : List (Int × Int)) (cs : List Int) (d : Int) (e : Nat) (st : Nat × Int) : Prop where
  lt : st.1 < es.length
  on : onE es st.2 st.1 = true
  rg : 0 ≤ st.2 ∧ st.2 < s
  col : eI cs st.1 = eI cs e ∨ eI cs st.1 = d - eI cs e

section
variable {s : Int} {es : List (Int × Int)} {cs : List Int} {d : Int} {e : Nat} {st : Nat × Int}
theorem oth_in' (g : IsG s es) {v : Int} {f : Nat} (hf : f < es.length) (ho : onE es v f = true) : 0 ≤ othE es v f ∧ othE es v f < s := by
  have h := oth_in (N := s.toNat) (endsIn_of (by have h0 := g.1.1.1; rw [Int.toNat_of_nonneg (by omega)]; exact g)) hf ho
  have h0 := g.1.1.1
  omega
theorem ChV.other (G : ChG s es cs d e) (h : ChV s es cs d e st) : 0 ≤ d - eI cs st.1 ∧ d - eI cs st.1 < 3 := by
  have h1 := G.hb
  have h2 := (G.gc.2 e G.he).1
  rcases h.col with h | h <;> omega
theorem ChV.step (G : ChG s es cs d e) (h : ChV s es cs d e st) : ChV s es cs d e (chStep es cs d st) := by
  obtain ⟨h1, h2, h3⟩ := colAt_spec G.g G.gc h.rg (h.other G)
  refine ⟨h1, oth_on h2, oth_in' G.g h1 h2, ?_⟩
  show eI cs (colAt es cs st.2 (d - eI cs st.1)) = _ ∨ eI cs (colAt es cs st.2 (d - eI cs st.1)) = _
  rw [h3]
  rcases h.col with h | h <;> omega
theorem chS_ok (G : ChG s es cs d e) : ∀ i, ChV s es cs d e (chS es cs d e i)
  | 0 => by
    have h := (G.g.1.2 e G.he)
    refine ⟨G.he, ?_, ⟨h.1, h.2.1⟩, .inl rfl⟩
    show onE es (eA es e) e = true
    simp [onE]
  | i + 1 => (chS_ok G i).step G
theorem chBack_step (G : ChG s es cs d e) (h : ChV s es cs d e st) : chBack es cs d (chStep es cs d st) = st := by
  obtain ⟨h1, h2, h3⟩ := colAt_spec G.g G.gc h.rg (h.other G)
  unfold chBack chStep
  dsimp only
  rw [oth_oth, h3, show d - (d - eI cs st.1) = eI cs st.1 by omega, colAt_eq G.g G.gc h.rg h.lt h.on]
theorem chBack_rev : chBack es cs d (chRev es st) = chRev es (chStep es cs d st) := by
  unfold chBack chRev chStep
  dsimp only
  rw [oth_oth, oth_oth]
theorem chS_norev (G : ChG s es cs d e) : ∀ k i, chS es cs d e (i + k) ≠ chRev es (chS es cs d e i)
  | 0, i => fun h => by
    have hv := chS_ok G i
    have h2 := congrArg Prod.snd h
    exact oth_ne G.g hv.lt hv.on h2.symm
  | 1, i => fun h => by
    have hv := chS_ok G i
    have h1 : colAt es cs (chS es cs d e i).2 (d - eI cs (chS es cs d e i).1) = (chS es cs d e i).1 := congrArg Prod.fst h
    have h3 := (colAt_spec G.g G.gc hv.rg (hv.other G)).2.2
    rw [h1] at h3
    have := G.hne
    rcases hv.col with h | h <;> omega
  | k + 2, i => fun h => by
    have hv := chS_ok G (i + k + 1)
    have h1 : chBack es cs d (chS es cs d e (i + (k + 2))) = chS es cs d e (i + k + 1) := chBack_step G hv
    rw [h, chBack_rev] at h1
    have h2 : chS es cs d e (i + 1 + k) = chRev es (chS es cs d e (i + 1)) := by
      rw [show i + 1 + k = i + k + 1 by omega, ← h1]
      rfl
    exact chS_norev G k (i + 1) h2
theorem chS_shift (G : ChG s es cs d e) : ∀ i j, chS es cs d e i = chS es cs d e (i + j) → chS es cs d e 0 = chS es cs d e j
  | 0, j, h => by rwa [Nat.zero_add] at h
  | i + 1, j, h => by
    refine chS_shift G i j ?_
    have h1 := chBack_step G (chS_ok G i)
    have h2 := chBack_step G (chS_ok G (i + j))
    rw [show i + 1 + j = (i + j) + 1 by omega] at h
    have h3 : chStep es cs d (chS es cs d e i) = chStep es cs d (chS es cs d e (i + j)) := h
    rw [← h1, ← h2, h3]

/-- The walk is back at its first edge. -/
theorem ch_end (G : ChG s es cs d e) : ∃ K, 0 < K ∧ (chS es cs d e K).1 = e ∧ ∀ i, 0 < i → i < K → (chS es cs d e i).1 ≠ e := by
  have h0 := G.g.1.1.1
  obtain ⟨N, rfl⟩ : ∃ N : Nat, s = N := ⟨_, (Int.toNat_of_nonneg (by omega)).symm⟩
  obtain ⟨i, j, hij, hj, he⟩ := pigeon (es.length * N) (fun i => (chS es cs d e i).1 * N + (chS es cs d e i).2.toNat) (fun i _ => by
    have hv := chS_ok G i
    have h1 := hv.lt
    have h2 := hv.rg
    have h3 : (chS es cs d e i).1 * N + N ≤ es.length * N := by
      have := Nat.mul_le_mul_right N (show (chS es cs d e i).1 + 1 ≤ es.length by omega)
      rw [Nat.add_mul, Nat.one_mul] at this
      exact this
    omega)
  have hvi := chS_ok G i
  have hvj := chS_ok G j
  have e1 : (chS es cs d e i).1 = (chS es cs d e j).1 := by
    have hi2 : (chS es cs d e i).2.toNat < N := by have := hvi.rg; omega
    have hj2 : (chS es cs d e j).2.toNat < N := by have := hvj.rg; omega
    have h1 : ((chS es cs d e i).1 * N + (chS es cs d e i).2.toNat) / N = (chS es cs d e i).1 := by
      rw [Nat.mul_comm, Nat.mul_add_div (by omega), Nat.div_eq_of_lt hi2]; rfl
    have h2 : ((chS es cs d e j).1 * N + (chS es cs d e j).2.toNat) / N = (chS es cs d e j).1 := by
      rw [Nat.mul_comm, Nat.mul_add_div (by omega), Nat.div_eq_of_lt hj2]; rfl
    rw [← h1, ← h2, he]
  have e2 : (chS es cs d e i).2 = (chS es cs d e j).2 := by
    have h1 := hvi.rg
    have h2 := hvj.rg
    rw [e1] at he
    omega
  have e3 : chS es cs d e i = chS es cs d e j := Prod.ext e1 e2
  have e4 := chS_shift G i (j - i) (by rw [show i + (j - i) = j by omega]; exact e3)
  have e5 : 0 < j - i ∧ (chS es cs d e (j - i)).1 = e := ⟨by omega, by rw [← e4]; rfl⟩
  obtain ⟨K, hK, hmin⟩ := least (P := fun n => 0 < n ∧ (chS es cs d e n).1 = e) (j - i) e5
  exact ⟨K, hK.1, hK.2, fun i h1 h2 h3 => hmin i h2 ⟨h1, h3⟩⟩

theorem ch_inj (G : ChG s es cs d e) {K : Nat} (hmin : ∀ i, 0 < i → i < K → (chS es cs d e i).1 ≠ e) {i j : Nat} (hij : i < j) (hj : j < K) : (chS es cs d e i).1 ≠ (chS es cs d e j).1 := fun h => by
  have hi := chS_ok G i
  have hj' := chS_ok G j
  have on2 : onE es (chS es cs d e j).2 (chS es cs d e i).1 = true := by rw [h]; exact hj'.on
  rcases on_two hi.on on2 with h1 | h1
  · have e3 : chS es cs d e i = chS es cs d e (i + (j - i)) := by rw [show i + (j - i) = j by omega]; exact Prod.ext h h1.symm
    have e4 := chS_shift G i (j - i) e3
    exact hmin (j - i) (by omega) (by omega) (by rw [← e4]; rfl)
  · refine chS_norev G (j - i) i ?_
    rw [show i + (j - i) = j by omega]
    exact Prod.ext h.symm h1

theorem ch_len (G : ChG s es cs d e) {K : Nat} (hmin : ∀ i, 0 < i → i < K → (chS es cs d e i).1 ≠ e) : K ≤ es.length := by
  rcases Nat.lt_or_ge es.length K with h | h
  · obtain ⟨i, j, hij, hj, he⟩ := pigeon es.length (fun i => (chS es cs d e i).1) (fun i _ => (chS_ok G i).lt)
    exact absurd he (ch_inj G hmin hij (by omega))
  · exact h

/-- The edges that edges of two colours join to e: in all that has e and what edges of these colours at its ends. -/
def ChIn (es : List (Int × Int)) (cs : List Int) (d : Int) (e f : Nat) : Prop := ∀ P : Nat → Prop, P e → (∀ x y (v : Int), P x → x < es.length → y < es.length → onE es v x = true → onE es v y = true → (eI cs y = eI cs e ∨ eI cs y = d - eI cs e) → P y) → P f
theorem chE_in (G : ChG s es cs d e) : ∀ i, ChIn es cs d e (chS es cs d e i).1
  | 0 => fun _ h0 _ => h0
  | i + 1 => fun P h0 hc => by
    have hv := chS_ok G i
    obtain ⟨h1, h2, _⟩ := colAt_spec G.g G.gc hv.rg (hv.other G)
    exact hc _ _ _ (chE_in G i P h0 hc) hv.lt h1 hv.on h2 (chS_ok G (i + 1)).col
theorem in_chE (G : ChG s es cs d e) {K : Nat} (hK : 0 < K) (hKe : (chS es cs d e K).1 = e) {f : Nat} (h : ChIn es cs d e f) : ∃ i, i < K ∧ (chS es cs d e i).1 = f := by
  have hKs : chS es cs d e K = chS es cs d e 0 := by
    have hv := chS_ok G K
    have on2 : onE es (chS es cs d e K).2 e = true := by have := hv.on; rwa [hKe] at this
    rcases on_two (u := eA es e) (by simp [onE]) on2 with h1 | h1
    · exact Prod.ext hKe h1
    · refine absurd ?_ (chS_norev G K 0)
      rw [Nat.zero_add]
      exact Prod.ext hKe h1
  refine h (fun f => ∃ i, i < K ∧ (chS es cs d e i).1 = f) ⟨0, hK, rfl⟩ ?_
  rintro x y v ⟨i, hi, rfl⟩ hx hy hvx hvy hcol
  have hv := chS_ok G i
  by_cases hc : eI cs y = eI cs (chS es cs d e i).1
  · have := col_one G.g G.gc hy hx hvy hvx hc
    exact ⟨i, hi, this.symm⟩
  have hc2 : eI cs y = d - eI cs (chS es cs d e i).1 := by
    have := hv.col
    omega
  rcases on_two hv.on hvx with h1 | h1
  · -- the next one
    have h2 : (chS es cs d e (i + 1)).1 = y := by
      show colAt es cs (chS es cs d e i).2 (d - eI cs (chS es cs d e i).1) = y
      rw [← hc2, ← h1]
      exact colAt_eq G.g G.gc (by rw [h1]; exact hv.rg) hy hvy
    rcases Nat.lt_or_ge (i + 1) K with h3 | h3
    · exact ⟨i + 1, h3, h2⟩
    · have h4 : i + 1 = K := by omega
      rw [h4, hKs] at h2
      exact ⟨0, hK, h2⟩
  · -- the one before
    have key : ∀ j, chS es cs d e (j + 1) = chS es cs d e i → (chS es cs d e j).1 = y := by
      intro j hj
      have hvj := chS_ok G j
      have hb := chBack_step G hvj
      rw [show chStep es cs d (chS es cs d e j) = chS es cs d e (j + 1) from rfl, hj] at hb
      rw [← hb]
      show colAt es cs (othE es (chS es cs d e i).2 (chS es cs d e i).1) (d - eI cs (chS es cs d e i).1) = y
      rw [← hc2, ← h1]
      exact colAt_eq G.g G.gc (by rw [h1]; exact oth_in' G.g hv.lt hv.on) hy hvy
    rcases Nat.eq_zero_or_pos i with h2 | h2
    · subst h2
      refine ⟨K - 1, by omega, key (K - 1) ?_⟩
      rw [show K - 1 + 1 = K by omega]
      exact hKs
    · refine ⟨i - 1, by omega, key (i - 1) ?_⟩
      rw [show i - 1 + 1 = i by omega]
end

/-- The edge f is in the chain of e. -/
def chB (es : List (Int × Int)) (cs : List Int) (d : Int) (e f : Nat) : Bool := (List.range es.length).any fun i => (chS es cs d e i).1 == f
def chU (es : List (Int × Int)) (cs : List Int) (d : Int) (e k : Nat) : List Int := ((List.range k).filter (chB es cs d e)).map fun (i : Nat) => (i : Int)
/-- The first edges of the walk. -/
def chW (es : List (Int × Int)) (cs : List Int) (d : Int) (e k : Nat) : List Int := (List.range k).map fun i => ((chS es cs d e i).1 : Int)

theorem chB_iff {s : Int} {es : List (Int × Int)} {cs : List Int} {d : Int} {e : Nat} (G : ChG s es cs d e) {f : Nat} : chB es cs d e f = true ↔ ChIn es cs d e f := by
  unfold chB
  rw [List.any_eq_true]
  constructor
  · rintro ⟨i, _, h⟩
    have h2 : (chS es cs d e i).1 = f := by simpa using h
    rw [← h2]
    exact chE_in G i
  · intro h
    obtain ⟨K, hK, hKe, hmin⟩ := ch_end G
    obtain ⟨i, hi, h2⟩ := in_chE G hK hKe h
    have := ch_len G hmin
    exact ⟨i, List.mem_range.2 (by omega), by simpa using h2⟩

theorem chW_perm {s : Int} {es : List (Int × Int)} {cs : List Int} {d : Int} {e K : Nat} (G : ChG s es cs d e) (hK : 0 < K) (hKe : (chS es cs d e K).1 = e) (hmin : ∀ i, 0 < i → i < K → (chS es cs d e i).1 ≠ e) : (chW es cs d e K).Perm (chU es cs d e es.length) := by
  rw [List.perm_ext_iff_of_nodup]
  · intro x
    unfold chW chU
    simp only [List.mem_map, List.mem_range, List.mem_filter]
    constructor
    · rintro ⟨i, hi, rfl⟩
      exact ⟨(chS es cs d e i).1, ⟨(chS_ok G i).lt, (chB_iff G).2 (chE_in G i)⟩, rfl⟩
    · rintro ⟨f, ⟨_, hf⟩, rfl⟩
      obtain ⟨i, hi, h⟩ := in_chE G hK hKe ((chB_iff G).1 hf)
      exact ⟨i, hi, by rw [h]⟩
  · unfold chW
    rw [List.nodup_iff_pairwise_ne, List.pairwise_map]
    refine List.Pairwise.imp_of_mem ?_ List.pairwise_lt_range
    intro i j hi hj hij h
    exact ch_inj G hmin hij (List.mem_range.1 hj) (by omega)
  · unfold chU
    rw [List.nodup_iff_pairwise_ne, List.pairwise_map]
    refine List.Pairwise.imp ?_ (List.Pairwise.filter _ List.pairwise_lt_range)
    intro i j h e
    omega
theorem chU_sorted (es : List (Int × Int)) (cs : List Int) (d : Int) (e k : Nat) : (chU es cs d e k).Pairwise (fun x y => x ≤ y) := by
  unfold chU
  rw [List.pairwise_map]
  refine List.Pairwise.imp ?_ (List.Pairwise.filter _ List.pairwise_lt_range)
  intro i j h
  omega
theorem chU_len (es : List (Int × Int)) (cs : List Int) (d : Int) (e k : Nat) : (chU es cs d e k).length ≤ k := by
  unfold chU
  rw [List.length_map]
  exact Nat.le_trans (List.length_filter_le _ _) (by simp)

end Go.Proofs.Ytaafbdpdpndplaa
