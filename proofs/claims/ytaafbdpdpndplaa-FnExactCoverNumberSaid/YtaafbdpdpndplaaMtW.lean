/- Matchings with an edge: as many as ways to go on where its ends are met. No program is named here. -/
import Derived.Test.YtaafbdpdpndplaaMtA
namespace Go.Proofs.Ytaafbdpdpndplaa
open Go.RowKit

/-- How many lists have a number. -/
def cwE (e : Nat) (Us : List (List Int)) : Nat := (Us.filter fun x => decide ((e : Int) ∈ x)).length
theorem cwE_nil (e : Nat) : cwE e [] = 0 := rfl
theorem cwE_append (e : Nat) (Us Vs : List (List Int)) : cwE e (Us ++ Vs) = cwE e Us + cwE e Vs := by
  unfold cwE
  rw [List.filter_append, List.length_append]
theorem cwE_none {e : Nat} {Us : List (List Int)} (h : ∀ x, x ∈ Us → (e : Int) ∉ x) : cwE e Us = 0 := by
  unfold cwE
  rw [List.length_eq_zero_iff, List.filter_eq_nil_iff]
  intro x hx
  simpa using h x hx
theorem cwE_all {e : Nat} {Us : List (List Int)} (h : ∀ x, x ∈ Us → (e : Int) ∈ x) : cwE e Us = Us.length := by
  unfold cwE
  rw [List.filter_eq_self.2 (fun x hx => by simpa using h x hx)]
theorem cwE_flat {e : Nat} {A B : Nat → List (List Int)} : ∀ L : List Nat, (∀ f, f ∈ L → cwE e (A f) = (B f).length) → cwE e (L.flatMap A) = (L.flatMap B).length
  | [], _ => rfl
  | f :: L, h => by
    rw [List.flatMap_cons, List.flatMap_cons, cwE_append, List.length_append, h f (List.mem_cons_self ..), cwE_flat L (fun f hf => h f (List.mem_cons_of_mem _ hf))]
theorem cwE_zero {e : Nat} {A : Nat → List (List Int)} : ∀ L : List Nat, (∀ f, f ∈ L → cwE e (A f) = 0) → cwE e (L.flatMap A) = 0
  | [], _ => rfl
  | f :: L, h => by
    rw [List.flatMap_cons, cwE_append, h f (List.mem_cons_self ..), cwE_zero L (fun f hf => h f (List.mem_cons_of_mem _ hf))]
theorem cwE_one {e : Nat} {A : Nat → List (List Int)} : ∀ L : List Nat, L.Nodup → e ∈ L → (∀ f, f ∈ L → f ≠ e → cwE e (A f) = 0) → cwE e (L.flatMap A) = cwE e (A e)
  | [], _, h, _ => by cases h
  | f :: L, hd, hm, h => by
    rw [List.flatMap_cons, cwE_append]
    obtain ⟨hf, hd'⟩ := List.nodup_cons.1 hd
    by_cases hfe : f = e
    · subst hfe
      rw [cwE_zero L (fun f' hf' => h f' (List.mem_cons_of_mem _ hf') (fun e => hf (e ▸ hf')))]
      rfl
    · have hm' : e ∈ L := by
        rcases List.mem_cons.1 hm with h1 | h1
        · exact absurd h1.symm hfe
        · exact h1
      rw [h f (List.mem_cons_self ..) hfe, cwE_one L hd' hm' (fun f' hf' hne => h f' (List.mem_cons_of_mem _ hf') hne), Nat.zero_add]

/-- How many ways there are does not hang on the edges before. -/
theorem mtF_free {N : Nat} {es : List (Int × Int)} : ∀ (r : Nat) (c c' : List Int) (ms : List Bool), (mtF N es r c ms).length = (mtF N es r c' ms).length
  | 0, _, _, _ => rfl
  | r + 1, c, c', ms => by
    rw [mtF_succ, mtF_succ]
    generalize onL es (lstF ms N : Int) = L
    induction L with
    | nil => rfl
    | cons f L ih =>
      rw [List.flatMap_cons, List.flatMap_cons, List.length_append, List.length_append, ih]
      congr 1
      unfold mtG
      split
      · rfl
      · exact mtF_free r _ _ _
/-- The edges before stay. -/
theorem mtF_has {N : Nat} {es : List (Int × Int)} {y : Int} : ∀ (r : Nat) (c : List Int) (ms : List Bool) (x : List Int), x ∈ mtF N es r c ms → y ∈ c → y ∈ x
  | 0, c, ms, x, h, hy => by rw [mtF_zero, List.mem_singleton] at h; rw [h]; exact hy
  | r + 1, c, ms, x, h, hy => by
    rw [mtF_succ] at h
    obtain ⟨f, _, h2⟩ := List.mem_flatMap.1 h
    unfold mtG at h2
    split at h2
    · cases h2
    · exact mtF_has r _ _ x h2 (List.mem_append_left _ hy)
/-- The two ends of an edge, as numbers. -/
structure EndE (N : Nat) (es : List (Int × Int)) (e X Y : Nat) : Prop where
  lt : e < es.length
  a : eA es e = X
  b : eB es e = Y
  x : X < N
  y : Y < N
  ne : X ≠ Y
theorem endE_of {N : Nat} {es : List (Int × Int)} (g : IsG N es) {e : Nat} (he : e < es.length) : ∃ X Y, EndE N es e X Y := by
  have hok := g.1.2 e he
  obtain ⟨X, hX⟩ : ∃ X : Nat, eA es e = X := ⟨_, (Int.toNat_of_nonneg hok.1).symm⟩
  obtain ⟨Y, hY⟩ : ∃ Y : Nat, eB es e = Y := ⟨_, (Int.toNat_of_nonneg hok.2.2.1).symm⟩
  exact ⟨X, Y, he, hX, hY, by have := hok.2.1; omega, by have := hok.2.2.2.1; omega, fun h => hok.2.2.2.2 (by rw [hX, hY, h])⟩
theorem EndE.on {N : Nat} {es : List (Int × Int)} {e X Y V : Nat} (h : EndE N es e X Y) : onE es V e = true ↔ V = X ∨ V = Y := by
  unfold onE
  rw [h.a, h.b]
  simp only [Bool.or_eq_true, beq_iff_eq]
  omega
theorem EndE.oth {N : Nat} {es : List (Int × Int)} {e X Y : Nat} (h : EndE N es e X Y) (V : Nat) : othE es V e = (X : Int) + Y - V := by
  unfold othE
  rw [h.a, h.b]
/-- What has an edge had both its ends free. -/
theorem mtF_only {N : Nat} {es : List (Int × Int)} (g : IsG N es) {e X Y : Nat} (hE : EndE N es e X Y) : ∀ (r : Nat) (c : List Int) (ms : List Bool) (x : List Int), ms.length = 20 → x ∈ mtF N es r c ms → (e : Int) ∈ x → (e : Int) ∈ c ∨ (eL ms X = false ∧ eL ms Y = false)
  | 0, c, ms, x, _, h, hx => by rw [mtF_zero, List.mem_singleton] at h; rw [h] at hx; exact .inl hx
  | r + 1, c, ms, x, hl, h, hx => by
    have hN20 : N ≤ 20 := by have := g.1.1.2.1; omega
    rw [mtF_succ] at h
    obtain ⟨f, hf, h2⟩ := List.mem_flatMap.1 h
    obtain ⟨hfl, hfo⟩ := onL_mem.1 hf
    obtain ⟨P, Q, hF⟩ := endE_of g hfl
    have hv := hF.on.1 hfo
    have hvN : lstF ms N < N := by rcases hv with h | h <;> rw [h]; exact hF.x; exact hF.y
    have hvf := lstF_free ms N hvN
    obtain ⟨U, hU⟩ : ∃ U : Nat, othE es (lstF ms N) f = U := ⟨_, by rw [hF.oth]; exact (Int.toNat_of_nonneg (by rcases hv with h | h <;> rw [h] <;> omega)).symm⟩
    have hUN : U < N := by
      have h3 := hF.oth (lstF ms N)
      rw [hU] at h3
      have := hF.x
      have := hF.y
      rcases hv with h | h <;> rw [h] at h3 <;> omega
    cases hm : eL ms U
    · rw [mtG_yes hU hm] at h2
      rcases mtF_only g hE r _ _ x (by rw [markV_len]; exact hl) h2 hx with h3 | ⟨h3, h4⟩
      · rcases List.mem_append.1 h3 with h4 | h4
        · exact .inl h4
        · right
          have hef : e = f := by
            have h5 : (e : Int) = (f : Int) := by simpa using h4
            omega
          subst hef
          have hP : P = X := by have := hF.a.symm.trans hE.a; omega
          have hQ : Q = Y := by have := hF.b.symm.trans hE.b; omega
          rw [hP, hQ] at hv
          have h5 := hE.oth (lstF ms N)
          rw [hU] at h5
          rcases hv with h6 | h6
          · have : U = Y := by omega
            rw [← h6, ← this]
            exact ⟨hvf, hm⟩
          · have : U = X := by omega
            rw [← h6, ← this]
            exact ⟨hm, hvf⟩
      · rw [markV_at (by omega) (by omega)] at h3 h4
        simp only [Bool.or_eq_false_iff] at h3 h4
        exact .inr ⟨h3.1.1, h4.1.1⟩
    · rw [mtG_no hU hm] at h2
      cases h2

theorem marks_ext {xs ys : List Bool} (hl : xs.length = ys.length) (h : ∀ i, eL xs i = eL ys i) : xs = ys := by
  apply List.ext_getElem hl
  intro i h1 h2
  have h3 := h i
  rwa [eL_lt h1, eL_lt h2] at h3
theorem markV_comm {ms : List Bool} {a b c d : Nat} (ha : a < ms.length) (hb : b < ms.length) (hc : c < ms.length) (hd : d < ms.length) : markV (markV ms a b) c d = markV (markV ms c d) a b := by
  refine marks_ext (by simp [markV_len]) fun i => ?_
  rw [markV_at (by rw [markV_len]; exact hc) (by rw [markV_len]; exact hd), markV_at ha hb, markV_at (by rw [markV_len]; exact ha) (by rw [markV_len]; exact hb), markV_at hc hd]
  cases eL ms i <;> cases decide (i = a) <;> cases decide (i = b) <;> cases decide (i = c) <;> cases decide (i = d) <;> rfl
theorem markV_swap {ms : List Bool} {a b : Nat} (ha : a < ms.length) (hb : b < ms.length) : markV ms a b = markV ms b a := by
  refine marks_ext (by simp [markV_len]) fun i => ?_
  rw [markV_at ha hb, markV_at hb ha]
  cases eL ms i <;> cases decide (i = a) <;> cases decide (i = b) <;> rfl
theorem lstF_marked {ms : List Bool} {N X Y : Nat} (hX : X < ms.length) (hY : Y < ms.length) (hv : lstF ms N < N) (h1 : lstF ms N ≠ X) (h2 : lstF ms N ≠ Y) : lstF (markV ms X Y) N = lstF ms N := by
  refine lstF_is (by omega) (fun j hj => ?_) (fun _ => ?_)
  · rw [markV_at hX hY, lstF_met ms N j hj]
    rfl
  · rw [markV_at hX hY, lstF_free ms N hv]
    simp [h1, h2]
theorem onL_nodup (es : List (Int × Int)) (v : Int) : (onL es v).Nodup := List.Pairwise.filter _ List.nodup_range

/-- Where the first free vertex leads to along an edge. -/
theorem oth_end {N V f : Nat} {es : List (Int × Int)} (g : IsG N es) (hf : f ∈ onL es (V : Int)) : ∃ U : Nat, othE es V f = U ∧ U < N ∧ U ≠ V := by
  obtain ⟨hfl, hfo⟩ := onL_mem.1 hf
  obtain ⟨P, Q, hF⟩ := endE_of g hfl
  have hv := hF.on.1 hfo
  have h3 := hF.oth V
  have := hF.x
  have := hF.y
  have := hF.ne
  rcases hv with rfl | rfl
  · exact ⟨Q, by omega, by omega, by omega⟩
  · exact ⟨P, by omega, by omega, by omega⟩
/-- The first free vertex is on the edge. -/
theorem mtF_withA {N : Nat} {es : List (Int × Int)} (g : IsG N es) {e X Y : Nat} (hE : EndE N es e X Y) (r : Nat) (c c' : List Int) (ms : List Bool) (hl : ms.length = 20) (hc : (e : Int) ∉ c) (hX : eL ms X = false) (hY : eL ms Y = false) (hv : lstF ms N = X ∨ lstF ms N = Y) :
    cwE e (mtF N es (r + 1) c ms) = (mtF N es r c' (markV ms X Y)).length := by
  have hN20 : N ≤ 20 := by have := g.1.1.2.1; omega
  have hX20 := hE.x
  have hY20 := hE.y
  obtain ⟨V, hV⟩ : ∃ V, lstF ms N = V := ⟨_, rfl⟩
  rw [mtF_succ]
  rw [hV] at hv ⊢
  have hVN : V < N := by omega
  rw [cwE_one (onL es V) (onL_nodup es V) (onL_mem.2 ⟨hE.lt, hE.on.2 hv⟩) (fun f hf hne => ?_)]
  · have key : ∀ U : Nat, othE es V e = U → eL ms U = false → markV ms V U = markV ms X Y → cwE e (mtG es (mtF N es r) V c ms e) = (mtF N es r c' (markV ms X Y)).length := fun U hU hu hm => by
      rw [mtG_yes hU hu, cwE_all (fun x hx => mtF_has r _ _ x hx (by simp)), hm]
      exact mtF_free r _ _ _
    have h := hE.oth V
    rcases hv with rfl | rfl
    · exact key Y (by omega) hY rfl
    · exact key X (by omega) hX (markV_swap (by omega) (by omega))
  · obtain ⟨U, hU, hUN, _⟩ := oth_end g hf
    cases hu : eL ms U
    · rw [mtG_yes hU hu]
      refine cwE_none fun x hx he => ?_
      rcases mtF_only g hE r _ _ x (by rw [markV_len]; exact hl) hx he with h | ⟨h1, h2⟩
      · rcases List.mem_append.1 h with h | h
        · exact hc h
        · have h5 : (e : Int) = (f : Int) := by simpa using h
          omega
      · rw [markV_at (by omega) (by omega)] at h1 h2
        rcases hv with h | h <;> simp [h] at h1 h2
    · rw [mtG_no hU hu]
      rfl

/-- Lists with an edge, counted. -/
theorem mtF_with {N : Nat} {es : List (Int × Int)} (g : IsG N es) {e X Y : Nat} (hE : EndE N es e X Y) : ∀ (r : Nat) (c c' : List Int) (ms : List Bool), ms.length = 20 → unmF ms N = 2 * (r + 1) → (e : Int) ∉ c → eL ms X = false → eL ms Y = false →
    cwE e (mtF N es (r + 1) c ms) = (mtF N es r c' (markV ms X Y)).length := by
  have hN20 : N ≤ 20 := by have := g.1.1.2.1; omega
  have hX20 := hE.x
  have hY20 := hE.y
  intro r
  induction r with
  | zero =>
    intro c c' ms hl hu hc hX hY
    by_cases hv : lstF ms N = X ∨ lstF ms N = Y
    · exact mtF_withA g hE 0 c c' ms hl hc hX hY hv
    · exfalso
      have hVN : lstF ms N < N := unmF_pos (by omega)
      have h1 := markV_unm (N := N) (ms := ms) (by omega) hE.x hE.y hE.ne hX hY
      have h2 := lstF_marked (ms := ms) (N := N) (X := X) (Y := Y) (by omega) (by omega) hVN (fun h => hv (.inl h)) (fun h => hv (.inr h))
      have h3 := unmF_zero (ms := markV ms X Y) (N := N) (by omega)
      omega
  | succ r ih =>
    intro c c' ms hl hu hc hX hY
    by_cases hv : lstF ms N = X ∨ lstF ms N = Y
    · exact mtF_withA g hE (r + 1) c c' ms hl hc hX hY hv
    · have hVN : lstF ms N < N := unmF_pos (by omega)
      have hvX : lstF ms N ≠ X := fun h => hv (.inl h)
      have hvY : lstF ms N ≠ Y := fun h => hv (.inr h)
      have hVf := lstF_free ms N hVN
      have h2 := lstF_marked (ms := ms) (N := N) (X := X) (Y := Y) (by omega) (by omega) hVN hvX hvY
      rw [mtF_succ, mtF_succ N es r c', h2]
      obtain ⟨V, hV⟩ : ∃ V, lstF ms N = V := ⟨_, rfl⟩
      rw [hV] at hVN hvX hvY hVf ⊢
      refine cwE_flat _ fun f hf => ?_
      obtain ⟨U, hU, hUN, hUV⟩ := oth_end g hf
      have hfe : f ≠ e := fun h => by
        have h3 := hE.on.1 ((onL_mem.1 (h ▸ hf)).2)
        omega
      have hef : (e : Int) ∉ c ++ [(f : Int)] := fun h => by
        rcases List.mem_append.1 h with h | h
        · exact hc h
        · have h5 : (e : Int) = (f : Int) := by simpa using h
          omega
      cases hm : eL ms U
      · by_cases hUX : U = X ∨ U = Y
        · rw [mtG_yes hU hm, mtG_no hU (by rw [markV_at (by omega) (by omega)]; rcases hUX with h | h <;> simp [h])]
          refine cwE_none fun x hx he => ?_
          rcases mtF_only g hE _ _ _ x (by rw [markV_len]; exact hl) hx he with h | ⟨h1, h2⟩
          · exact hef h
          · rw [markV_at (by omega) (by omega)] at h1 h2
            rcases hUX with h | h <;> simp [h] at h1 h2
        · have hUX1 : ¬ U = X := fun h => hUX (.inl h)
          have hUY1 : ¬ U = Y := fun h => hUX (.inr h)
          rw [mtG_yes hU hm, mtG_yes hU (by rw [markV_at (by omega) (by omega), hm]; simp [hUX1, hUY1])]
          have h1 := markV_unm (N := N) (ms := ms) (v := V) (w := U) (by omega) hVN hUN (fun h => hUV h.symm) hVf hm
          have hXV : ¬ X = V := fun h => hvX h.symm
          have hYV : ¬ Y = V := fun h => hvY h.symm
          have hXU : ¬ X = U := fun h => hUX1 h.symm
          have hYU : ¬ Y = U := fun h => hUY1 h.symm
          rw [ih (c ++ [(f : Int)]) (c' ++ [(f : Int)]) (markV ms V U) (by rw [markV_len]; exact hl) (by omega) hef (by rw [markV_at (by omega) (by omega), hX]; simp [hXV, hXU]) (by rw [markV_at (by omega) (by omega), hY]; simp [hYV, hYU]), markV_comm (by omega) (by omega) (by omega) (by omega)]
      · rw [mtG_no hU hm, mtG_no hU (by rw [markV_at (by omega) (by omega), hm]; rfl)]
        rfl

/-- As many matchings have an edge as there are ways to go on where its ends are met. -/
theorem mtL_with {N H : Nat} {es : List (Int × Int)} (g : IsG N es) {e X Y : Nat} (hE : EndE N es e X Y) (hH : N = 2 * (H + 1)) : cwE e (mtL N es) = (mtF N es H [] (markV (List.replicate 20 false) X Y)).length := by
  have hN20 : N ≤ 20 := by have := g.1.1.2.1; omega
  unfold mtL
  rw [show N / 2 = H + 1 by omega]
  have h0 : ∀ i, i < 20 → eL (List.replicate 20 false) i = false := fun i hi => by
    unfold eL
    rw [List.getD_eq_getElem?_getD, List.getElem?_replicate, if_pos hi]
    rfl
  exact mtF_with g hE H [] [] _ (by simp) (by rw [unmF_none N hN20]; exact hH) (by simp) (h0 _ (by have := hE.x; omega)) (h0 _ (by have := hE.y; omega))

end Go.Proofs.Ytaafbdpdpndplaa
