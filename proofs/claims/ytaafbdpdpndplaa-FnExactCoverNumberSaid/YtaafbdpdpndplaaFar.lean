/- Distances in graphs by breadth first search, step by step, as plain lists; which vertices are joined by ways. No program is named here. -/
import Derived.Test.YtaafbdpdpndplaaCols
namespace Go.Proofs.Ytaafbdpdpndplaa
open Go.RowKit

/-- Ends of edges are vertices. -/
def EndsIn (N : Nat) (es : List (Int × Int)) : Prop := ∀ i, i < es.length → (0 ≤ eA es i ∧ eA es i < N) ∧ (0 ≤ eB es i ∧ eB es i < N)
theorem endsIn_of {N : Nat} {es : List (Int × Int)} (g : IsG N es) : EndsIn N es := fun i hi => by
  have h := g.1.2 i hi
  exact ⟨⟨h.1, h.2.1⟩, ⟨h.2.2.1, h.2.2.2.1⟩⟩

/-- Two vertices are joined by a way: what edges do not leave has both or none of them. -/
def Conn (es : List (Int × Int)) (u v : Int) : Prop := ∀ P : Int → Prop, P u → (∀ i, i < es.length → (P (eA es i) ↔ P (eB es i))) → P v
theorem Conn.refl (es : List (Int × Int)) (u : Int) : Conn es u u := fun _ h _ => h
theorem Conn.trans {es : List (Int × Int)} {u v x : Int} (h : Conn es u v) (k : Conn es v x) : Conn es u x := fun P h0 hc => k P (h P h0 hc) hc
theorem Conn.edge {es : List (Int × Int)} {i : Nat} (hi : i < es.length) : Conn es (eA es i) (eB es i) := fun _ h0 hc => (hc i hi).1 h0
theorem Conn.back {es : List (Int × Int)} {i : Nat} (hi : i < es.length) : Conn es (eB es i) (eA es i) := fun _ h0 hc => (hc i hi).2 h0
theorem Conn.symm {es : List (Int × Int)} {u v : Int} (h : Conn es u v) : Conn es v u :=
  h (fun x => Conn es x u) (Conn.refl es u) (fun _ hi => ⟨fun k => (Conn.back hi).trans k, fun k => (Conn.edge hi).trans k⟩)
theorem Conn.on {es : List (Int × Int)} {v : Int} {i : Nat} (hi : i < es.length) (h : onE es v i = true) : Conn es v (eA es i + eB es i - v) := by
  unfold onE at h
  by_cases h1 : eA es i = v
  · subst h1
    rw [show eA es i + eB es i - eA es i = eB es i by omega]
    exact Conn.edge hi
  · have h2 : eB es i = v := by simpa [h1] using h
    subst h2
    rw [show eA es i + eB es i - eB es i = eA es i by omega]
    exact Conn.back hi
theorem Conn.range {N : Nat} {es : List (Int × Int)} (he : EndsIn N es) {u v : Int} (h : Conn es u v) (hu : 0 ≤ u ∧ u < N) : 0 ≤ v ∧ v < N :=
  h (fun x => 0 ≤ x ∧ x < (N : Int)) hu (fun i hi => ⟨fun _ => (he i hi).2, fun _ => (he i hi).1⟩)

/-- The other end of an edge. -/
def othE (es : List (Int × Int)) (v : Int) (e : Nat) : Int := eA es e + eB es e - v
/-- The edges at a vertex, by number. -/
def onL (es : List (Int × Int)) (v : Int) : List Nat := (List.range es.length).filter (onE es v)
theorem onL_mem {es : List (Int × Int)} {v : Int} {e : Nat} : e ∈ onL es v ↔ e < es.length ∧ onE es v e = true := by
  unfold onL
  rw [List.mem_filter, List.mem_range]
theorem onL_len (es : List (Int × Int)) (v : Int) : (onL es v).length ≤ es.length := by
  have := List.length_filter_le (onE es v) (List.range es.length)
  rw [List.length_range] at this
  exact this
theorem onL_at (es : List (Int × Int)) (v : Int) : atF es v = (onL es v).map fun (i : Nat) => (i : Int) := rfl
theorem oth_in {N : Nat} {es : List (Int × Int)} (he : EndsIn N es) {v : Int} {e : Nat} (h : e < es.length) (ho : onE es v e = true) : 0 ≤ othE es v e ∧ othE es v e < N := by
  have h1 := he e h
  unfold onE at ho
  unfold othE
  by_cases h2 : eA es e = v
  · omega
  · have h3 : eB es e = v := by simpa [h2] using ho
    omega

/-- One edge of the search: distances and the queue. -/
def farE (es : List (Int × Int)) (keep : Nat → Bool) (v : Int) (st : List Int × List Int) (e : Nat) : List Int × List Int :=
  if keep e = true ∧ eI st.1 (othE es v e).toNat = -1 then (st.1.set (othE es v e).toNat (eI st.1 v.toNat + 1), st.2 ++ [othE es v e]) else st
def farL (es : List (Int × Int)) (keep : Nat → Bool) (v : Int) (st : List Int × List Int) (L : List Nat) : List Int × List Int := L.foldl (farE es keep v) st
def farS (N : Nat) (es : List (Int × Int)) (keep : Nat → Bool) (a : Int) : Nat → List Int × List Int
  | 0 => ((List.replicate N (-1)).set a.toNat 0, [a])
  | i + 1 => if i < (farS N es keep a i).2.length then farL es keep (eI (farS N es keep a i).2 i) (farS N es keep a i) (onL es (eI (farS N es keep a i).2 i)) else farS N es keep a i
def farF (N : Nat) (es : List (Int × Int)) (keep : Nat → Bool) (a : Int) : List Int := (farS N es keep a N).1

theorem farL_snoc (es : List (Int × Int)) (keep : Nat → Bool) (v : Int) (st : List Int × List Int) (L : List Nat) (e : Nat) : farL es keep v st (L ++ [e]) = farE es keep v (farL es keep v st L) e := by
  unfold farL
  rw [List.foldl_append]
  rfl

theorem eI_append {xs ys : List Int} {i : Nat} (h : i < xs.length) : eI (xs ++ ys) i = eI xs i := by
  rw [eI_lt h, eI_lt (by rw [List.length_append]; omega), List.getElem_append_left h]
theorem eI_last {xs : List Int} {y : Int} : eI (xs ++ [y]) xs.length = y := by
  rw [eI_lt (by rw [List.length_append]; simp)]
  simp
theorem eI_set' {xs : List Int} {k i : Nat} {x : Int} (hk : k < xs.length) : eI (xs.set k x) i = if i = k then x else eI xs i := by
  unfold eI
  rw [List.getD_eq_getElem?_getD, List.getD_eq_getElem?_getD, List.getElem?_set]
  by_cases h : i = k
  · subst h; simp [hk]
  · simp [Ne.symm h, h]

/-- What the search keeps. -/
structure FarI (N : Nat) (st : List Int × List Int) : Prop where
  len : st.1.length = N
  cnt : st.2.length = st.1.countP (fun x => x != -1)
  mem : ∀ x, x ∈ st.2 → 0 ≤ x ∧ x < N ∧ eI st.1 x.toNat ≠ -1
  all : ∀ v, v < N → eI st.1 v ≠ -1 → (v : Int) ∈ st.2
  bnd : ∀ v, v < N → -1 ≤ eI st.1 v ∧ eI st.1 v < st.2.length

theorem FarI.le {N : Nat} {st : List Int × List Int} (h : FarI N st) : st.2.length ≤ N := by
  rw [h.cnt, ← h.len]
  exact List.countP_le_length
theorem countP_set_one : ∀ (xs : List Int) (k : Nat) (x : Int), k < xs.length → eI xs k = -1 → x ≠ -1 → (xs.set k x).countP (fun x => x != -1) = xs.countP (fun x => x != -1) + 1
  | [], k, x, hk, _, _ => by simp at hk
  | y :: xs, 0, x, hk, h1, h2 => by
    have h3 : y = -1 := h1
    subst h3
    rw [List.set_cons_zero, List.countP_cons, List.countP_cons]
    simp [h2]
  | y :: xs, k + 1, x, hk, h1, h2 => by
    rw [List.set_cons_succ, List.countP_cons, List.countP_cons, countP_set_one xs k x (by simpa using hk) h1 h2]
    omega
theorem FarI.put {N : Nat} {st : List Int × List Int} (h : FarI N st) {w v : Nat} (hw : w < N) (h1 : eI st.1 w = -1) (hv : v < N) : FarI N (st.1.set w (eI st.1 v + 1), st.2 ++ [(w : Int)]) := by
  have hb := h.bnd v hv
  have hl : w < st.1.length := by rw [h.len]; exact hw
  refine ⟨by rw [List.length_set]; exact h.len, ?_, fun x hx => ?_, fun u hu hne => ?_, fun u hu => ?_⟩
  · rw [List.length_append, countP_set_one _ _ _ hl h1 (by omega), h.cnt]
    rfl
  · dsimp only at hx ⊢
    rw [eI_set' hl]
    rcases List.mem_append.1 hx with h2 | h2
    · obtain ⟨h3, h4, h5⟩ := h.mem x h2
      refine ⟨h3, h4, ?_⟩
      split
      · omega
      · exact h5
    · obtain rfl : x = (w : Int) := by simpa using h2
      refine ⟨by omega, by omega, ?_⟩
      rw [Int.toNat_natCast, if_pos rfl]
      omega
  · dsimp only at hne ⊢
    rw [eI_set' hl] at hne
    by_cases e : u = w
    · subst e
      exact List.mem_append.2 (.inr (by simp))
    · rw [if_neg e] at hne
      exact List.mem_append.2 (.inl (h.all u hu hne))
  · dsimp only
    rw [eI_set' hl, List.length_append, List.length_singleton]
    have := h.bnd u hu
    split <;> omega

theorem eI_rep {N : Nat} {x : Int} {i : Nat} (h : i < N) : eI (List.replicate N x) i = x := by
  rw [eI_lt (by simpa using h)]
  simp
theorem farS_zero {N : Nat} {es : List (Int × Int)} {keep : Nat → Bool} {a : Int} (ha : 0 ≤ a ∧ a < N) : FarI N (farS N es keep a 0) := by
  obtain ⟨A, rfl⟩ : ∃ A : Nat, a = A := ⟨_, (Int.toNat_of_nonneg ha.1).symm⟩
  have hA : A < N := by omega
  have hl : A < (List.replicate N (-1 : Int)).length := by simpa using hA
  unfold farS
  refine ⟨by simp, ?_, fun x hx => ?_, fun u hu hne => ?_, fun u hu => ?_⟩
  · dsimp only
    rw [Int.toNat_natCast, countP_set_one _ _ _ hl (eI_rep hA) (by omega)]
    have : (List.replicate N (-1 : Int)).countP (fun x => x != -1) = 0 := by
      rw [List.countP_eq_zero]
      intro x hx
      obtain ⟨_, rfl⟩ := List.mem_replicate.1 hx
      simp
    rw [this]
    rfl
  · obtain rfl : x = (A : Int) := by simpa using hx
    dsimp only
    rw [eI_set' (by simpa using hA)]
    exact ⟨by omega, by omega, by simp⟩
  · dsimp only at hne ⊢
    rw [Int.toNat_natCast, eI_set' hl] at hne
    by_cases e : u = A
    · subst e; simp
    · rw [if_neg e, eI_rep hu] at hne
      exact absurd rfl hne
  · dsimp only
    rw [Int.toNat_natCast, eI_set' hl, List.length_singleton]
    split
    · omega
    · rw [eI_rep hu]; omega

/-- A step of one edge keeps it, and what was reached stays so with its distance; the queue only grows. -/
def Grows (N : Nat) (st st' : List Int × List Int) : Prop := (∀ i, i < st.2.length → eI st'.2 i = eI st.2 i) ∧ st.2.length ≤ st'.2.length ∧ (∀ u, u < N → eI st.1 u ≠ -1 → eI st'.1 u = eI st.1 u)
theorem Grows.refl (N : Nat) (st : List Int × List Int) : Grows N st st := ⟨fun _ _ => rfl, Nat.le_refl _, fun _ _ _ => rfl⟩
theorem Grows.trans {N : Nat} {a b c : List Int × List Int} (h : Grows N a b) (k : Grows N b c) : Grows N a c :=
  ⟨fun i hi => (k.1 i (by have := h.2.1; omega)).trans (h.1 i hi), Nat.le_trans h.2.1 k.2.1, fun u hu hne => (k.2.2 u hu (by rw [h.2.2 u hu hne]; exact hne)).trans (h.2.2 u hu hne)⟩

theorem farE_inv {N : Nat} {es : List (Int × Int)} {keep : Nat → Bool} {v : Int} {st : List Int × List Int} {e : Nat} (he : EndsIn N es) (h : FarI N st) (hv : 0 ≤ v ∧ v < N) (_hv1 : eI st.1 v.toNat ≠ -1) (hl : e < es.length) (ho : onE es v e = true) :
    FarI N (farE es keep v st e) ∧ Grows N st (farE es keep v st e) ∧ (keep e = true → eI (farE es keep v st e).1 (othE es v e).toNat ≠ -1) := by
  obtain ⟨h1, h2⟩ := oth_in he hl ho
  obtain ⟨w, hw⟩ : ∃ w : Nat, othE es v e = w := ⟨_, (Int.toNat_of_nonneg h1).symm⟩
  have hwN : w < N := by omega
  unfold farE
  rw [hw, Int.toNat_natCast]
  split
  · rename_i hc
    have hb := h.bnd v.toNat (by omega)
    have hlw : w < st.1.length := by rw [h.len]; exact hwN
    refine ⟨h.put hwN hc.2 (by omega), ⟨fun i hi => eI_append hi, by rw [List.length_append]; omega, fun u hu hne => ?_⟩, fun _ => ?_⟩
    · dsimp only
      rw [eI_set' hlw]
      split
      · rename_i e1
        subst e1
        exact absurd hc.2 hne
      · rfl
    · dsimp only
      rw [eI_set' hlw, if_pos rfl]
      omega
  · rename_i hc
    exact ⟨h, Grows.refl _ _, fun hk hne => hc ⟨hk, hne⟩⟩

theorem farL_inv {N : Nat} {es : List (Int × Int)} {keep : Nat → Bool} {v : Int} (he : EndsIn N es) (hv : 0 ≤ v ∧ v < N) : ∀ (L : List Nat) (st : List Int × List Int), FarI N st → eI st.1 v.toNat ≠ -1 → (∀ e, e ∈ L → e < es.length ∧ onE es v e = true) →
    FarI N (farL es keep v st L) ∧ Grows N st (farL es keep v st L) ∧ (∀ e, e ∈ L → keep e = true → eI (farL es keep v st L).1 (othE es v e).toNat ≠ -1)
  | [], st, h, _, _ => ⟨h, Grows.refl _ _, fun e he => by simp at he⟩
  | e :: L, st, h, hv1, hL => by
    obtain ⟨h1, h2⟩ := hL e (by simp)
    obtain ⟨k1, k2, k3⟩ := farE_inv (keep := keep) he h hv hv1 h1 h2
    have hv2 : eI (farE es keep v st e).1 v.toNat ≠ -1 := by rw [k2.2.2 v.toNat (by omega) hv1]; exact hv1
    obtain ⟨m1, m2, m3⟩ := farL_inv (keep := keep) he hv L (farE es keep v st e) k1 hv2 (fun e' h' => hL e' (by simp [h']))
    have hw := oth_in he h1 h2
    refine ⟨m1, k2.trans m2, fun e' h' hk => ?_⟩
    rcases List.mem_cons.1 h' with rfl | h''
    · rw [show farL es keep v st (e' :: L) = farL es keep v (farE es keep v st e') L from rfl, m2.2.2 _ (by omega) (k3 hk)]
      exact k3 hk
    · exact m3 e' h'' hk

theorem eI_mem {xs : List Int} {i : Nat} (h : i < xs.length) : eI xs i ∈ xs := by rw [eI_lt h]; exact List.getElem_mem h

theorem farS_inv {N : Nat} {es : List (Int × Int)} {keep : Nat → Bool} {a : Int} (he : EndsIn N es) (ha : 0 ≤ a ∧ a < N) : ∀ i, FarI N (farS N es keep a i)
  | 0 => farS_zero ha
  | i + 1 => by
    have h := farS_inv (keep := keep) he ha i
    unfold farS
    split
    · rename_i hc
      obtain ⟨h1, h2, h3⟩ := h.mem _ (eI_mem hc)
      exact (farL_inv he ⟨h1, h2⟩ _ _ h h3 (fun e he' => onL_mem.1 he')).1
    · exact h
theorem farS_step {N : Nat} {es : List (Int × Int)} {keep : Nat → Bool} {a : Int} {i : Nat} (h : i < (farS N es keep a i).2.length) : farS N es keep a (i + 1) = farL es keep (eI (farS N es keep a i).2 i) (farS N es keep a i) (onL es (eI (farS N es keep a i).2 i)) := by
  rw [farS, if_pos h]
theorem farS_grows {N : Nat} {es : List (Int × Int)} {keep : Nat → Bool} {a : Int} (he : EndsIn N es) (ha : 0 ≤ a ∧ a < N) (i : Nat) : Grows N (farS N es keep a i) (farS N es keep a (i + 1)) := by
  have h := farS_inv (keep := keep) he ha i
  rw [farS]
  split
  · rename_i hc
    obtain ⟨h1, h2, h3⟩ := h.mem _ (eI_mem hc)
    exact (farL_inv he ⟨h1, h2⟩ _ _ h h3 (fun e he' => onL_mem.1 he')).2.1
  · exact Grows.refl _ _
theorem farS_stay {N : Nat} {es : List (Int × Int)} {keep : Nat → Bool} {a : Int} {i : Nat} (h : (farS N es keep a i).2.length ≤ i) : ∀ j, farS N es keep a (i + j) = farS N es keep a i
  | 0 => rfl
  | j + 1 => by
    have k := farS_stay h j
    rw [show i + (j + 1) = i + j + 1 by omega, farS, k, if_neg (by omega)]
theorem farF_end {N : Nat} {es : List (Int × Int)} {keep : Nat → Bool} {a : Int} (he : EndsIn N es) (ha : 0 ≤ a ∧ a < N) {i : Nat} (h : (farS N es keep a i).2.length ≤ i) : (farS N es keep a i).1 = farF N es keep a := by
  unfold farF
  rcases Nat.le_total i N with h1 | h1
  · rw [← farS_stay h (N - i), show i + (N - i) = N by omega]
  · rw [← farS_stay (i := N) ((farS_inv he ha N).le) (i - N), show N + (i - N) = i by omega]
theorem farF_len {N : Nat} {es : List (Int × Int)} {keep : Nat → Bool} {a : Int} (he : EndsIn N es) (ha : 0 ≤ a ∧ a < N) : (farF N es keep a).length = N := (farS_inv he ha N).len
theorem farF_bnd {N : Nat} {es : List (Int × Int)} {keep : Nat → Bool} {a : Int} (he : EndsIn N es) (ha : 0 ≤ a ∧ a < N) {v : Nat} (hv : v < N) : -1 ≤ eI (farF N es keep a) v ∧ eI (farF N es keep a) v < N := by
  have h := (farS_inv (keep := keep) he ha N).bnd v hv
  have := (farS_inv (keep := keep) he ha N).le
  unfold farF
  omega

theorem farE_congr {es : List (Int × Int)} {k1 k2 : Nat → Bool} {v : Int} {st : List Int × List Int} {e : Nat} (h : k1 e = k2 e) : farE es k1 v st e = farE es k2 v st e := by
  unfold farE
  rw [h]
theorem farL_congr {es : List (Int × Int)} {k1 k2 : Nat → Bool} {v : Int} : ∀ (L : List Nat) (st : List Int × List Int), (∀ e, e ∈ L → k1 e = k2 e) → farL es k1 v st L = farL es k2 v st L
  | [], _, _ => rfl
  | e :: L, st, h => by
    show farL es k1 v (farE es k1 v st e) L = farL es k2 v (farE es k2 v st e) L
    rw [farE_congr (h e (by simp)), farL_congr L _ (fun e' h' => h e' (by simp [h']))]
theorem farS_congr {N : Nat} {es : List (Int × Int)} {k1 k2 : Nat → Bool} {a : Int} (h : ∀ e, e < es.length → k1 e = k2 e) : ∀ i, farS N es k1 a i = farS N es k2 a i
  | 0 => rfl
  | i + 1 => by
    rw [farS, farS, farS_congr h i, farL_congr _ _ (fun e he => h e (onL_mem.1 he).1)]
theorem farF_congr {N : Nat} {es : List (Int × Int)} {k1 k2 : Nat → Bool} {a : Int} (h : ∀ e, e < es.length → k1 e = k2 e) : farF N es k1 a = farF N es k2 a := by
  unfold farF
  rw [farS_congr h]

/- Reached are just the vertices to which a way leads. -/
theorem farE_conn {es : List (Int × Int)} {keep : Nat → Bool} {a v : Int} {st : List Int × List Int} {e : Nat} (hl : e < es.length) (ho : onE es v e = true) (hv : Conn es a v) (h : ∀ x, x ∈ st.2 → Conn es a x) : ∀ x, x ∈ (farE es keep v st e).2 → Conn es a x := by
  unfold farE
  split
  · intro x hx
    rcases List.mem_append.1 hx with h1 | h1
    · exact h x h1
    · obtain rfl : x = othE es v e := by simpa using h1
      exact hv.trans (Conn.on hl ho)
  · exact h
theorem farL_conn {es : List (Int × Int)} {keep : Nat → Bool} {a v : Int} (hv : Conn es a v) : ∀ (L : List Nat) (st : List Int × List Int), (∀ e, e ∈ L → e < es.length ∧ onE es v e = true) → (∀ x, x ∈ st.2 → Conn es a x) → ∀ x, x ∈ (farL es keep v st L).2 → Conn es a x
  | [], _, _, h => h
  | e :: L, st, hL, h => farL_conn hv L (farE es keep v st e) (fun e' h' => hL e' (by simp [h'])) (farE_conn (hL e (by simp)).1 (hL e (by simp)).2 hv h)
theorem farS_conn {N : Nat} {es : List (Int × Int)} {keep : Nat → Bool} {a : Int} : ∀ i x, x ∈ (farS N es keep a i).2 → Conn es a x
  | 0 => fun x hx => by
    obtain rfl : x = a := by simpa [farS] using hx
    exact Conn.refl _ _
  | i + 1 => by
    have h := farS_conn (N := N) (es := es) (keep := keep) (a := a) i
    rw [farS]
    split
    · rename_i hc
      exact farL_conn (h _ (eI_mem hc)) _ _ (fun e he => onL_mem.1 he) h
    · exact h

theorem farS_done {N : Nat} {es : List (Int × Int)} {keep : Nat → Bool} {a : Int} (he : EndsIn N es) (ha : 0 ≤ a ∧ a < N) : ∀ i j, j < i → j < (farS N es keep a i).2.length → ∀ e, e < es.length → onE es (eI (farS N es keep a i).2 j) e = true → keep e = true → eI (farS N es keep a i).1 (othE es (eI (farS N es keep a i).2 j) e).toNat ≠ -1
  | 0 => fun j hj => by omega
  | i + 1 => fun j hj hjl e hel ho hk => by
    have IH := farS_done (keep := keep) he ha i
    have inv := farS_inv (keep := keep) he ha i
    have gr := farS_grows (keep := keep) he ha i
    have hjl' : j < (farS N es keep a i).2.length := by
      rcases Nat.lt_or_ge i (farS N es keep a i).2.length with h | h
      · omega
      · rw [farS, if_neg (by omega)] at hjl
        exact hjl
    have hje := gr.1 j hjl'
    rw [hje] at ho ⊢
    obtain ⟨m1, m2, m3⟩ := inv.mem _ (eI_mem hjl')
    have hin := oth_in he hel ho
    rcases Nat.lt_or_ge j i with h | h
    · have h1 := IH j h hjl' e hel ho hk
      rw [gr.2.2 _ (by omega) h1]
      exact h1
    · obtain rfl : j = i := by omega
      rw [farS_step hjl']
      exact (farL_inv he ⟨m1, m2⟩ _ _ inv m3 (fun e he' => onL_mem.1 he')).2.2 e (onL_mem.2 ⟨hel, ho⟩) hk

theorem farF_conn {N : Nat} {es : List (Int × Int)} {keep : Nat → Bool} {a : Int} (he : EndsIn N es) (ha : 0 ≤ a ∧ a < N) (hk : ∀ e, e < es.length → keep e = true) {v : Nat} (hv : v < N) : eI (farF N es keep a) v ≠ -1 ↔ Conn es a v := by
  have inv := farS_inv (keep := keep) he ha N
  refine ⟨fun h => farS_conn N _ (inv.all v hv h), fun h => ?_⟩
  have h1 := h (fun x => 0 ≤ x ∧ x < N ∧ eI (farF N es keep a) x.toNat ≠ -1) ?_ ?_
  · have := h1.2.2
    rwa [Int.toNat_natCast] at this
  · refine ⟨ha.1, ha.2, ?_⟩
    have h0 : eI (farS N es keep a 0).1 a.toNat ≠ -1 := by
      unfold farS
      dsimp only
      rw [eI_set' (by rw [List.length_replicate]; omega), if_pos rfl]
      omega
    have hg : ∀ i, Grows N (farS N es keep a 0) (farS N es keep a i) := by
      intro i
      induction i with
      | zero => exact Grows.refl _ _
      | succ i ih => exact ih.trans (farS_grows he ha i)
    unfold farF
    rw [(hg N).2.2 _ (by omega) h0]
    exact h0
  · have step : ∀ (x : Int) (e : Nat), e < es.length → onE es x e = true → (0 ≤ x ∧ x < N ∧ eI (farF N es keep a) x.toNat ≠ -1) → (0 ≤ othE es x e ∧ othE es x e < N ∧ eI (farF N es keep a) (othE es x e).toNat ≠ -1) := by
      intro x e hel ho ⟨x0, x1, x2⟩
      have hin := oth_in he hel ho
      refine ⟨hin.1, hin.2, ?_⟩
      have hm := inv.all x.toNat (by omega) x2
      rw [Int.toNat_of_nonneg x0] at hm
      obtain ⟨j, hj, ej⟩ := List.getElem_of_mem hm
      have ej' : eI (farS N es keep a N).2 j = x := by rw [eI_lt hj, ej]
      have h3 := farS_done he ha N j (by have := inv.le; omega) hj e hel (by rw [ej']; exact ho) (hk e hel)
      rw [ej'] at h3
      exact h3
    intro i hi
    refine ⟨fun h => ?_, fun h => ?_⟩
    · have := step (eA es i) i hi (by simp [onE]) h
      unfold othE at this
      rwa [show eA es i + eB es i - eA es i = eB es i by omega] at this
    · have := step (eB es i) i hi (by simp [onE]) h
      unfold othE at this
      rwa [show eA es i + eB es i - eB es i = eA es i by omega] at this

end Go.Proofs.Ytaafbdpdpndplaa
