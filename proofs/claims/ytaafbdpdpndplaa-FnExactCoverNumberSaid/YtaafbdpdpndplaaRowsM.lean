/- A list of lists of numbers while it grows; what is kept while one block is written. -/
import Derived.Test.YtaafbdpdpndplaaMoves
import Derived.Test.YtaafbdpdpndplaaOwnMore
import Derived.Test.YtaafbdpdpndplaaCycA
namespace Go.Proofs.Ytaafbdpdpndplaa
open Go.RowKit

theorem infoSlR : (Try.prog.info? 46).map (fun i => (i.zero, i.size, i.bytes)) = some (some (.slice none 0 0), 1, 24) := by kernel_rfl
def lR (Ls : List (List Int)) (i : Nat) : List Int := Ls.getD i []
theorem lR_app {Ls : List (List Int)} {x : List Int} {i : Nat} (h : i < Ls.length) : lR (Ls ++ [x]) i = lR Ls i := by
  unfold lR
  rw [List.getD_eq_getElem?_getD, List.getD_eq_getElem?_getD, List.getElem?_append_left h]
theorem lR_last {Ls : List (List Int)} {x : List Int} : lR (Ls ++ [x]) Ls.length = x := by
  unfold lR
  rw [List.getD_eq_getElem?_getD, List.getElem?_append_right (Nat.le_refl _)]
  simp
def RowsM (w : World) (B : Nat) (Ls : List (List Int)) (cap : Nat) (q : Option Addr) (vals : List Value) : Prop :=
  w.ownsRow B 46 1 (.slice q Ls.length cap) Ls.length vals ∧ vals.length = Ls.length ∧ ∀ i, i < Ls.length → ∃ g c, vals[i]? = some (.slice (some ⟨g, 0, none⟩) (lR Ls i).length c) ∧ B ≤ g ∧ OwnI w g c (lR Ls i)
theorem row_nei {w : World} {B n g cap : Nat} {v : Value} {xs : List Value} {ys : List Int} (h : w.ownsRow B 46 1 v n xs) (ho : OwnI w g cap ys) : some g ≠ v.ownBlock := fun e => by
  rcases h.2 with ⟨rfl, _⟩ | ⟨g', cap', cur, rfl, _, hg, _⟩
  · simp [Value.ownBlock] at e
  · have e' : g = g' := Option.some.inj e
    subst e'
    obtain ⟨cur2, hc2, _⟩ := ho
    rw [hg] at hc2
    have h2 := Option.some.inj hc2
    injection h2 with h3 h4
    exact absurd h4 (by decide)
theorem RowsM.nil {w : World} {B : Nat} {cap : Nat} {q : Option Addr} (h : w.ownsRow B 46 1 (.slice q 0 cap) 0 []) : RowsM w B [] cap q [] := ⟨h, rfl, fun i hi => by simp at hi⟩
theorem RowsM.push {w w' : World} {B cap cap' m c gp g : Nat} {q : Option Addr} {Ls : List (List Int)} {x : List Int} {vals : List Value} (h : RowsM w B Ls cap q vals)
    (hO : OwnI w gp c x) (hB : B ≤ gp) (hm : x.length = m)
    (hown : w'.ownsRow B 46 1 (.slice (some ⟨g, 0, none⟩) (Ls.length + 1) cap') (Ls.length + 1) (vals ++ [.slice (some ⟨gp, 0, none⟩) m c])) (hg : w.grownBy w' (Value.slice q Ls.length cap).ownBlock) :
    RowsM w' B (Ls ++ [x]) cap' (some ⟨g, 0, none⟩) (vals ++ [.slice (some ⟨gp, 0, none⟩) m c]) := by
  obtain ⟨h1, h2, h3⟩ := h
  have hl : (Ls ++ [x]).length = Ls.length + 1 := by simp
  have hk : ∀ {g' c' : Nat} {ys : List Int}, OwnI w g' c' ys → OwnI w' g' c' ys := fun hO' => hO'.keep (hg.block _ hO'.lt (row_nei h1 hO'))
  refine ⟨by rw [hl]; exact hown, by rw [hl, List.length_append, h2]; rfl, fun i hi => ?_⟩
  rw [hl] at hi
  rcases Nat.lt_or_ge i Ls.length with hi' | hi'
  · obtain ⟨g', c', e1, e2, e3⟩ := h3 i hi'
    rw [lR_app hi', List.getElem?_append_left (by omega)]
    exact ⟨g', c', e1, e2, hk e3⟩
  · have ei : i = Ls.length := by omega
    subst ei
    rw [lR_last, List.getElem?_append_right (by omega), h2, Nat.sub_self, hm]
    exact ⟨gp, c, rfl, hB, hk hO⟩
theorem Kept.below {p : Nat → Prop} {B : Nat} {A C : World} (h : Kept p A C) (hp : ∀ i, i < B → p i) (hB : B ≤ A.heap.size) : Below B A C :=
  ⟨h.os, h.tape, h.output, h.size, fun i hi => h.same i (hp i hi) (by omega)⟩
theorem Kept.call {p : Nat → Prop} {A B C : World} (h : Kept p A B) (hb : Below B.heap.size B C) : Kept p A C :=
  h.trans ⟨hb.os, hb.tape, hb.output, hb.size, fun i _ hi => hb.block i hi⟩
theorem Kept.set {p : Nat → Prop} {A B : World} (h : Kept p A B) {a : Addr} (ha : ¬ p a.block) (v : Value) : Kept p A (B.setCell a v) :=
  h.trans ⟨rfl, rfl, rfl, by simp [World.setCell], fun i hi _ => heap_setCell_other B a i v (fun e => ha (by rw [← e]; exact hi))⟩
theorem Kept.row {p : Nat → Prop} {A B C : World} {row : Option Nat} (h : Kept p A B) (hg : B.grownBy C row) (hr : ∀ r, row = some r → ¬ p r) : Kept p A C :=
  h.trans ⟨hg.os, hg.tape, hg.output, hg.size, fun i hi hl => hg.block i hl (fun e => hr i e.symm hi)⟩
theorem RowsM.kept {w w' : World} {B cap : Nat} {q : Option Addr} {Ls : List (List Int)} {vals : List Value} (h : RowsM w B Ls cap q vals) (hk : ∀ i, B ≤ i → i < w.heap.size → w'.heap[i]? = w.heap[i]?) : RowsM w' B Ls cap q vals := by
  obtain ⟨h1, h2, h3⟩ := h
  refine ⟨⟨h1.1, ?_⟩, h2, fun i hi => ?_⟩
  · rcases h1.2 with hn | ⟨g, c, cur, hv, hb, hg, r⟩
    · exact .inl hn
    · exact .inr ⟨g, c, cur, hv, hb, (hk g hb (Array.getElem?_eq_some_iff.1 hg).1).trans hg, r⟩
  · obtain ⟨g, c, e1, e2, e3⟩ := h3 i hi
    exact ⟨g, c, e1, e2, e3.keep (hk g e2 e3.lt)⟩

/-- The marks while the cycle of k is gone round: its first j edges are marked too. -/
def mjL (es : List (Int × Int)) (ok : Nat → Bool) (nx : Int → Nat → Nat) (k j : Nat) : List Bool := (List.range es.length).map fun f => metC es ok nx k f || decide ((f : Int) ∈ cyP es nx k j)
def mcL (es : List (Int × Int)) (ok : Nat → Bool) (nx : Int → Nat → Nat) (k : Nat) : List Bool := (List.range es.length).map fun f => metC es ok nx k f
section
variable {s : Int} {es : List (Int × Int)} {ok : Nat → Bool} {nx : Int → Nat → Nat}
theorem mjL_len (es : List (Int × Int)) (ok : Nat → Bool) (nx : Int → Nat → Nat) (k j : Nat) : (mjL es ok nx k j).length = es.length := by simp [mjL]
theorem mcL_len (es : List (Int × Int)) (ok : Nat → Bool) (nx : Int → Nat → Nat) (k : Nat) : (mcL es ok nx k).length = es.length := by simp [mcL]
theorem mjL_at {k j f : Nat} (hf : f < es.length) : eL (mjL es ok nx k j) f = (metC es ok nx k f || decide ((f : Int) ∈ cyP es nx k j)) := by
  unfold mjL
  rw [eL_lt (by simpa using hf)]
  simp
theorem mcL_at {k f : Nat} (hf : f < es.length) : eL (mcL es ok nx k) f = metC es ok nx k f := by
  unfold mcL
  rw [eL_lt (by simpa using hf)]
  simp
theorem bools_ext {xs ys : List Bool} (hl : xs.length = ys.length) (h : ∀ f, f < xs.length → eL xs f = eL ys f) : xs = ys := by
  refine List.ext_getElem hl fun i h1 h2 => ?_
  have := h i h1
  rwa [eL_lt h1, eL_lt h2] at this
theorem mjL_zero (k : Nat) : mjL es ok nx k 0 = mcL es ok nx k := by
  refine bools_ext (by rw [mjL_len, mcL_len]) fun f hf => ?_
  rw [mjL_len] at hf
  rw [mjL_at hf, mcL_at hf]
  simp [cyP]
theorem mcL_zero : mcL es ok nx 0 = List.replicate es.length false := by
  refine bools_ext (by simp [mcL]) fun f hf => ?_
  rw [mcL_len] at hf
  rw [mcL_at hf, eL_lt (by simpa using hf)]
  simp [metC]
theorem mjL_step {k j : Nat} (hf : (wyS es nx k j).1 < es.length) : (mjL es ok nx k j).set (wyS es nx k j).1 true = mjL es ok nx k (j + 1) := by
  refine bools_ext (by rw [List.length_set, mjL_len, mjL_len]) fun f hf2 => ?_
  rw [List.length_set, mjL_len] at hf2
  rw [eL_set (by rw [mjL_len]; exact hf), mjL_at hf2, mjL_at hf2, cyP_succ]
  by_cases e : f = (wyS es nx k j).1
  · rw [if_pos e]
    simp [e]
  · rw [if_neg e]
    have : ¬ (f : Int) = ((wyS es nx k j).1 : Int) := by omega
    simp [this]
theorem mjL_end {k : Nat} (h : leadC es ok nx k = true) : mjL es ok nx k (cyK es nx k) = mcL es ok nx (k + 1) := by
  unfold leadC at h
  rw [Bool.and_eq_true] at h
  refine bools_ext (by rw [mjL_len, mcL_len]) fun f hf => ?_
  rw [mjL_len] at hf
  rw [mjL_at hf, mcL_at hf, metC_succ, h.1, Bool.true_and]
  rfl
theorem mcL_old (G : TwoG s es ok nx) {k : Nat} (h : leadC es ok nx k = false) : mcL es ok nx (k + 1) = mcL es ok nx k := by
  refine bools_ext (by rw [mcL_len, mcL_len]) fun f hf => ?_
  rw [mcL_len] at hf
  rw [mcL_at hf, mcL_at hf, metC_old G h]
/-- The walk's edge is marked just if it is back at its first one. -/
theorem mjL_now (G : TwoG s es ok nx) {k j : Nat} (h : leadC es ok nx k = true) (hj : j ≤ cyK es nx k) : eL (mjL es ok nx k j) (wyS es nx k j).1 = decide (j = cyK es nx k) := by
  have hk : ok k = true := by unfold leadC at h; rw [Bool.and_eq_true] at h; exact h.1
  obtain ⟨h1, h2, h3, h4⟩ := cyK_spec G hk
  rw [mjL_at (G.lt _ (wyS_ok G hk j).ok), metC_new G h, Bool.false_or]
  by_cases e : j = cyK es nx k
  · have hm : ((wyS es nx k j).1 : Int) ∈ cyP es nx k j := by
      refine cyP_mem.2 ⟨0, by omega, ?_⟩
      rw [e, h3]
      rfl
    rw [decide_eq_true e, decide_eq_true hm]
  · have hm : ¬ ((wyS es nx k j).1 : Int) ∈ cyP es nx k j := fun hm => by
      obtain ⟨i, hi, he⟩ := cyP_mem.1 hm
      exact wy_inj G hk h4 hi (by omega) he
    rw [decide_eq_false e, decide_eq_false hm]
end

end Go.Proofs.Ytaafbdpdpndplaa
