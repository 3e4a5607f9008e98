/- Parts in memory: a row of rows of numbers. -/
import Derived.Test.YtafhpldcpgjpjaaLead
import Derived.Test.YtafhpldcpgjpjaaOwnMore
import Derived.Test.YtafhpldcpgjpjaaSpecAt
namespace Go.Proofs.Ytafhpldcpgjpjaa
open Go.RowKit

/-- The parts of the first k vertices' leaders lie in memory of the call's own, from block B on. -/
def PartsM (w : World) (B N : Nat) (es : List (Int × Int)) (k K cap : Nat) (q : Option Addr) (vals : List Value) : Prop :=
  w.ownsRow B 44 1 (.slice q K cap) K vals ∧ (leadU N es k).length = K ∧ vals.length = K ∧ (∀ i, i < K → ∃ g m c, vals[i]? = some (.slice (some ⟨g, 0, none⟩) m c) ∧ B ≤ g ∧ (reachU N es ((leadU N es k).getD i 0) N).length = m ∧ OwnI w g c (reachU N es ((leadU N es k).getD i 0) N)) ∧
    ∀ i j g m c g' m' c', i < j → j < K → vals[i]? = some (.slice (some ⟨g, 0, none⟩) m c) → vals[j]? = some (.slice (some ⟨g', 0, none⟩) m' c') → g < g'

theorem partsM_nil (w : World) (B N : Nat) (es : List (Int × Int)) : PartsM w B N es 0 0 0 none [] := ⟨World.ownsRow_nil _ _ _ _, rfl, rfl, fun i hi => by omega, fun i j _ _ _ _ _ _ _ hj => by omega⟩

theorem PartsM.grown {w w' : World} {B N : Nat} {es : List (Int × Int)} {k K cap : Nat} {q : Option Addr} {vals : List Value} (h : PartsM w B N es k K cap q vals) {row : Option Nat} (hg : w.grownBy w' row) (hrow : ∀ r, row = some r → r < B) : PartsM w' B N es k K cap q vals := by
  obtain ⟨h1, h2, h3, h4, h5⟩ := h
  refine ⟨h1.kept hg ?_, h2, h3, fun i hi => ?_, h5⟩
  · cases hq : (Value.slice q K cap).ownBlock with
    | none => exact .inl rfl
    | some b => exact .inr (fun e => by have := (h1.lt b hq).1; have := hrow b e.symm; omega)
  · obtain ⟨g, m, c, e1, e2, e3, e4⟩ := h4 i hi
    exact ⟨g, m, c, e1, e2, e3, e4.keep (hg.block g e4.lt (fun e => by have := hrow g e.symm; omega))⟩

theorem row_ne {w : World} {B n g cap c : Nat} {q : Option Addr} {vals : List Value} {xs : List Int} (h : w.ownsRow B 44 1 (.slice q n c) n vals) (hO : OwnI w g cap xs) : some g ≠ (Value.slice q n c).ownBlock := fun e => by
  rcases h.2 with ⟨hv, _⟩ | ⟨b, cap', cur, hv, _, hg, _⟩
  · rw [hv] at e; cases e
  · rw [hv] at e
    have e1 : g = b := Option.some.inj e
    subst e1
    obtain ⟨cur', hc', _⟩ := hO
    have e2 := Option.some.inj (hg.symm.trans hc')
    injection e2 with _ e3
    exact absurd e3 (by decide)

theorem getD_append_lt {L : List Nat} {x i : Nat} (h : i < L.length) : (L ++ [x]).getD i 0 = L.getD i 0 := by
  rw [List.getD_eq_getElem?_getD, List.getD_eq_getElem?_getD, List.getElem?_append_left h]
theorem getD_append_last (L : List Nat) (x : Nat) : (L ++ [x]).getD L.length 0 = x := by
  rw [List.getD_eq_getElem?_getD, List.getElem?_append_right (Nat.le_refl _)]
  simp

theorem PartsM.lt {w : World} {B N : Nat} {es : List (Int × Int)} {k K cap : Nat} {q : Option Addr} {vals : List Value} (h : PartsM w B N es k K cap q vals) {i g m c : Nat} (hi : i < K) (hv : vals[i]? = some (.slice (some ⟨g, 0, none⟩) m c)) : g < w.heap.size := by
  obtain ⟨g', m', c', e1, e2, e3, e4⟩ := h.2.2.2.1 i hi
  have e := Option.some.inj (hv.symm.trans e1)
  injection e with e5
  simp only [Option.some.injEq, Addr.mk.injEq] at e5
  rw [e5.1]
  exact e4.lt

theorem PartsM.push {w w' : World} {B N : Nat} {es : List (Int × Int)} {k K cap cap' m c gp g : Nat} {q : Option Addr} {vals : List Value} (h : PartsM w B N es k K cap q vals) (hl : leadB N es k = true)
    (hO : OwnI w gp c (reachU N es k N)) (hB : B ≤ gp) (hlow : ∀ i g m c, i < K → vals[i]? = some (.slice (some ⟨g, 0, none⟩) m c) → g < gp) (hm : (reachU N es k N).length = m)
    (hown : w'.ownsRow B 44 1 (.slice (some ⟨g, 0, none⟩) (K + 1) cap') (K + 1) (vals ++ [.slice (some ⟨gp, 0, none⟩) m c])) (hg : w.grownBy w' (Value.slice q K cap).ownBlock) :
    PartsM w' B N es (k + 1) (K + 1) cap' (some ⟨g, 0, none⟩) (vals ++ [.slice (some ⟨gp, 0, none⟩) m c]) := by
  obtain ⟨h1, h2, h3, h4, h5⟩ := h
  refine ⟨hown, by rw [leadU_yes hl, List.length_append, h2]; rfl, by rw [List.length_append, h3]; rfl, fun i hi => ?_, fun i j g m c g' m' c' hij hj hi hv => ?_⟩
  rotate_left
  · rcases Nat.lt_or_ge j K with hj' | hj'
    · rw [List.getElem?_append_left (by omega)] at hi hv
      exact h5 i j g m c g' m' c' hij hj' hi hv
    · obtain rfl : j = K := by omega
      rw [List.getElem?_append_left (by omega)] at hi
      rw [List.getElem?_append_right (by omega), h3, Nat.sub_self] at hv
      have e := Option.some.inj hv
      injection e with e5
      simp only [Option.some.injEq, Addr.mk.injEq] at e5
      rw [← e5.1]
      exact hlow i g m c hij hi
  rw [leadU_yes hl]
  have hk : ∀ {g' c' : Nat} {xs : List Int}, OwnI w g' c' xs → OwnI w' g' c' xs := fun hO' => hO'.keep (hg.block _ hO'.lt (row_ne h1 hO'))
  rcases Nat.lt_or_ge i K with hi' | hi'
  · obtain ⟨g', m', c', e1, e2, e3, e4⟩ := h4 i hi'
    rw [getD_append_lt (by omega), List.getElem?_append_left (by omega)]
    exact ⟨g', m', c', e1, e2, e3, hk e4⟩
  · obtain rfl : i = K := by omega
    have hgd : (leadU N es k ++ [k]).getD i 0 = k := by
      have := getD_append_last (leadU N es k) k
      rwa [h2] at this
    rw [hgd]
    refine ⟨gp, m, c, ?_, hB, hm, hk hO⟩
    rw [List.getElem?_append_right (by omega), h3, Nat.sub_self]
    rfl

theorem PartsM.skip {w : World} {B N : Nat} {es : List (Int × Int)} {k K cap : Nat} {q : Option Addr} {vals : List Value} (h : PartsM w B N es k K cap q vals) (hl : leadB N es k = false) : PartsM w B N es (k + 1) K cap q vals := by
  unfold PartsM at h ⊢
  rw [leadU_no hl]
  exact h

/-- Marks that go on: block g is written, and blocks beyond are new or lie beyond. -/
theorem grown_two {w0 w1 w2 : World} {g r : Nat} {row : Option Nat} (h : w0.grownBy w1 (some g)) (k : w1.grownBy w2 row) (hrow : ∀ j, row = some j → j = g ∨ w0.heap.size ≤ j) (_ : r = r) : w0.grownBy w2 (some g) := by
  refine ⟨k.os.trans h.os, k.tape.trans h.tape, k.output.trans h.output, Nat.le_trans h.size k.size, fun i hi hne => ?_⟩
  have h1 := h.block i hi hne
  refine (k.block i (Nat.lt_of_lt_of_le hi h.size) (fun e => ?_)).trans h1
  rcases hrow i e.symm with h2 | h2
  · exact hne (by rw [h2])
  · omega
theorem grown_refl (w : World) (row : Option Nat) : w.grownBy w row := ⟨rfl, rfl, rfl, Nat.le_refl _, fun _ _ _ => rfl⟩

/-- A leader's vertices are those to which ways lead. -/
theorem lead_reach {N : Nat} {es : List (Int × Int)} {xs : List Int} (he : EndsIn N es) (h : IsLead N es xs) {v w : Nat} (hv : v < N) (hw : w < N) (hl : leadB N es v = true) : (eI xs w == (v : Int)) = reachB N es v w := by
  have hxv : eI xs v = (v : Int) := by
    have := h.at_lead he hv
    rw [hl] at this
    simpa using this
  have h1 : eI xs w = (v : Int) ↔ reachB N es v w = true := by
    rw [reachB_iff he hv hw]
    refine ⟨fun e => ?_, fun hc => ?_⟩
    · have := (h.1.at_ w hw).2.2
      rw [e] at this
      exact this.symm
    · rw [← h.conn he hv hc, hxv]
  cases hb : reachB N es v w
  · rw [hb] at h1
    simp at h1
    simpa using h1
  · rw [hb] at h1
    simpa using h1

end Go.Proofs.Ytafhpldcpgjpjaa
