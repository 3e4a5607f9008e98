/- A region that draws its order, in two parts: operations that only read, in whatever order; then some in their order; then again operations that only read, and the rest in order. No program is named here. -/
import Derived.StillTailTactics
import Derived.WalkKit
namespace Go.Proofs.Ytonlpihbpbnnmaa
open Go.RowKit

section
variable {P : Program} {ops : Array Oper} {md : Region.Mode} {w : World}

/-- Each operation behind n waits for one from n on. -/
def chain2B (md : Region.Mode) (ops : Array Oper) (n : Nat) : Bool :=
  (List.range ops.size).all fun t => decide (t ≤ n) || (List.range t).any fun u => decide (n ≤ u) && Region.waitsFor md ops t u

theorem tail_waits2 {n : Nat} {listed : Array Bool} (hs : Region.sinkB md ops n = true) (hc : chain2B md ops n = true) (inv : HeadInv md ops n listed) :
    ∀ (d i : Nat), n - i = d → i < n → n < ops.size → listed.getD i true = false → ∀ t, n ≤ t → t ∉ Region.ready md ops listed := by
  intro d
  induction d using Nat.strongRecOn with
  | _ d ih =>
    intro i hd hi hn hun t ht hr
    obtain ⟨_, ot, hot, hall⟩ := mem_ready.1 hr
    have htlt : t < ops.size := (Array.getElem?_eq_some_iff.1 hot).1
    by_cases htn : t = n
    · subst htn
      have h1 := List.all_eq_true.1 hs i (List.mem_range.2 hi)
      obtain ⟨j, hj, hj2⟩ := List.any_eq_true.1 h1
      simp only [Bool.and_eq_true, decide_eq_true_eq] at hj2
      obtain ⟨oj, hoj, e, he, hb, hon⟩ := Region.waitsFor_spec hj2.2
      have hjle : j ≤ t := by have := List.mem_range.1 hj; omega
      by_cases hjt : j = t
      · subst hjt
        have : oj = ot := Option.some.inj (hoj.symm.trans hot)
        subst this
        have h2 := hall e he hb
        rw [hon, getD_both hun] at h2
        cases h2
      · cases hl : listed.getD j false with
        | true =>
          have h2 := inv.closed j oj hoj hl e he hb
          rw [hon, getD_both hun] at h2
          cases h2
        | false =>
          have hjs : j < listed.size := by rw [inv.size]; omega
          exact ih (t - j) (by omega) j rfl (by omega) hn (getD_in hjs hl) t (Nat.le_refl _) hr
    · have h1 := List.all_eq_true.1 hc t (List.mem_range.2 htlt)
      simp only [Bool.or_eq_true, decide_eq_true_eq] at h1
      rcases h1 with h1 | h1
      · omega
      · obtain ⟨u, hu, hu2⟩ := List.any_eq_true.1 h1
        simp only [Bool.and_eq_true, decide_eq_true_eq] at hu2
        have hut := List.mem_range.1 hu
        obtain ⟨o', ho', e, he, hb, hon⟩ := Region.waitsFor_spec hu2.2
        have : o' = ot := Option.some.inj (ho'.symm.trans hot)
        subst this
        have h2 := hall e he hb
        rw [hon, getD_both (inv.tail u hu2.1 (by omega))] at h2
        cases h2

theorem wpAnyL_first2 {n i : Nat} {oi : Oper} {v : Value} {L : Array Bool → Act → Prop} (hi : ops[i]? = some oi) (hsel : ∀ (j : Nat) (o : Oper) cs b, ops[j]? = some o → o.op ≠ .select cs b)
    (hs : Region.sinkB md ops n = true) (hc : chain2B md ops n = true) (hn : n < ops.size) (hin : i < n)
    (hdone : ∀ listed a, L listed a → ∀ j ∈ Region.ready md ops listed, n ≤ j) :
    ∀ (f : Nat) (listed : Array Bool) (a : Act), HeadInv md ops n listed →
      (∀ j oj, ops[j]? = some oj → j ≠ i → listed.getD j true = false → (∀ e ∈ oj.after, Region.binds md e = true → e.on ≠ i) → oi.apart ops oj = true) →
      i ∈ Region.ready md ops listed → YieldsAt P ops w oi v a →
      wpAnyL P md ops w n L f (listed.setIfInBounds i true) (a.put oi.dst v) → wpAnyL P md ops w n L (f + 1) listed a := by
  intro f
  induction f with
  | zero =>
    intro listed a inv _ hr hy H
    have hun := (mem_ready.1 hr).1
    refine ⟨fun h => (by rw [h] at hr; cases hr), fun j hj => ?_⟩
    have hjn : j < n := by
      rcases Nat.lt_or_ge j n with h | h
      · exact h
      · exact absurd hj (tail_waits2 hs hc inv _ i rfl hin hn hun j h)
    refine ⟨hjn, ?_⟩
    by_cases hji : j = i
    · subst hji; exact hy.stOp hi H
    · have := hdone _ _ H j (ready_mono hj hji)
      omega
  | succ f ih =>
    intro listed a inv hfree hr hy H
    have hun := (mem_ready.1 hr).1
    refine ⟨fun h => (by rw [h] at hr; cases hr), fun j hj => ?_⟩
    have hjn : j < n := by
      rcases Nat.lt_or_ge j n with h | h
      · exact h
      · exact absurd hj (tail_waits2 hs hc inv _ i rfl hin hn hun j h)
    refine ⟨hjn, ?_⟩
    by_cases hji : j = i
    · subst hji
      exact hy.stOp hi H
    · have h1 := (H.2 j (ready_mono hj hji)).2
      obtain ⟨hjun, oj, hoj, hall⟩ := mem_ready.1 hj
      have hnot : ∀ e ∈ oj.after, Region.binds md e = true → e.on ≠ i := fun e he hb heq => by
        have h1 := hall e he hb
        rw [heq, getD_both hun] at h1
        cases h1
      have h2 := stOp_put hoj (hfree j oj hoj hji hjun hnot) (fun cs b => hsel i oi cs b hi) (fun cs b => hsel j oj cs b hoj) hy h1
      have hfree' : ∀ k ok, ops[k]? = some ok → k ≠ i → (listed.setIfInBounds j true).getD k true = false →
          (∀ e ∈ ok.after, Region.binds md e = true → e.on ≠ i) → oi.apart ops ok = true := fun k ok hk hki hun hno => by
        refine hfree k ok hk hki ?_ hno
        by_cases hjk : j = k
        · subst hjk; exact hjun
        · rw [getD_set_ne true hjk] at hun; exact hun
      refine stOp_mono (fun a' h3 => ih (listed.setIfInBounds j true) a' (inv.set hj hjn) hfree' (ready_mono hr (Ne.symm hji)) h3.1 ?_) h2
      rw [Array.setIfInBounds_comm _ _ hji]
      exact h3.2

/-- The operations from k on are taken in their order as far as f ones go; what is behind them is told by B. -/
def lexHead2 (md : Region.Mode) (ops : Array Oper) (B : Nat → Array Bool → Bool) : Nat → Nat → Array Bool → Bool
  | 0, k, listed => B k listed
  | f + 1, k, listed => (Region.ready md ops listed).contains k && Region.free md ops listed k && lexHead2 md ops B f (k + 1) (listed.setIfInBounds k true)

theorem wpAnyL_lex2 {n : Nat} {B : Nat → Array Bool → Bool} {Lq : Act → Prop} (hB : ∀ listed, B n listed = true → ∀ j ∈ Region.ready md ops listed, n ≤ j) (hsel : Region.noSelect ops = true) (hs : Region.sinkB md ops n = true) (hc : chain2B md ops n = true) (hn : n < ops.size) :
    ∀ (l : List Oper) (k : Nat) (listed : Array Bool) (a : Act), (∀ j, j < l.length → l[j]? = ops[k + j]?) → k + l.length = n → HeadInv md ops n listed →
    lexHead2 md ops B l.length k listed = true → wpStill P ops w Lq l a →
    wpAnyL P md ops w n (fun listed' a' => B n listed' = true ∧ Lq a') l.length listed a
  | [], k, listed, a, _, hk, _, hb, h => by
    have : k = n := by simpa using hk
    subst this
    exact ⟨by simpa [lexHead2] using hb, h⟩
  | o :: l, k, listed, a, hl, hk, inv, hb, h => by
    have h0 : ops[k]? = some o := by simpa using (hl 0 (by simp)).symm
    simp only [List.length_cons, lexHead2, Bool.and_eq_true] at hb
    obtain ⟨⟨hr, hf⟩, hb'⟩ := hb
    have hkn : k < n := by simp only [List.length_cons] at hk; omega
    have hr' : k ∈ Region.ready md ops listed := by simpa using hr
    have hst : stOp P ops w k (wpStill P ops w Lq l) a := by unfold stOp; simp only [h0]; exact h
    obtain ⟨v, hy, hK⟩ := yieldsAt_of_stOp h0 hst
    exact wpAnyL_first2 h0 (Region.noSelect_spec hsel) hs hc hn hkn (fun listed' a' hL => hB listed' hL.1) l.length listed a inv (Region.free_spec h0 hf) hr' hy
      (wpAnyL_lex2 hB hsel hs hc hn l (k + 1) _ _ (fun j hj => by have := hl (j + 1) (by simp; omega); simpa [Nat.add_assoc, Nat.add_comm 1 j] using this) (by simp only [List.length_cons] at hk; omega) (inv.set hr' hkn) hb' hK)

/-- The c operations from k on are ready one after the other alone. -/
def onlyB (md : Region.Mode) (ops : Array Oper) (B : Nat → Array Bool → Bool) : Nat → Nat → Array Bool → Bool
  | 0, k, listed => B k listed
  | c + 1, k, listed => decide (Region.ready md ops listed = [k]) && onlyB md ops B c (k + 1) (listed.setIfInBounds k true)
/-- What is asked of the state in which the second part begins. -/
def midB (md : Region.Mode) (ops : Array Oper) (n : Nat) (k : Nat) (listed : Array Bool) : Bool :=
  decide (n < ops.size) && decide (k < n) && Region.sinkB md ops n && Region.chainB md ops n && decide (listed.size = ops.size) &&
    ((List.range ops.size).all fun j => !listed.getD j false || (match ops[j]? with | some oj => oj.after.all fun e => !Region.binds md e || listed.getD e.on false | none => true)) &&
    ((List.range ops.size).all fun t => decide (t < n) || !listed.getD t true) && Region.lexHead md ops (ops.size - n) (n - k) k listed

theorem wpAny_of_mid {Q' : Exit → Act → World → Prop} {n k : Nat} {listed : Array Bool} {a : Act} (hsel : Region.noSelect ops = true) (hB : midB md ops n k listed = true)
    (h : wpStill P ops w (fun a' => wpList P ops Q' (ops.toList.drop n) a' w) ((ops.toList.drop k).take (n - k)) a) : wpAny P md ops Q' (ops.size - k) listed a w := by
  simp only [midB, Bool.and_eq_true, decide_eq_true_eq] at hB
  obtain ⟨⟨⟨⟨⟨⟨⟨hn, hk⟩, hs⟩, hc⟩, hsz⟩, hcl⟩, htl⟩, hlex⟩ := hB
  have inv : HeadInv md ops n listed := ⟨hsz, fun j oj hj hl e he hb => by
    have h1 := List.all_eq_true.1 hcl j (List.mem_range.2 (Array.getElem?_eq_some_iff.1 hj).1)
    rw [hl, hj] at h1
    simp only [Bool.not_true, Bool.false_or] at h1
    have h2 := Array.all_eq_true'.1 h1 e he
    rw [hb] at h2
    simpa using h2, fun t ht hts => by
    have h1 := List.all_eq_true.1 htl t (List.mem_range.2 hts)
    simp only [Bool.or_eq_true, decide_eq_true_eq, Bool.not_eq_true'] at h1
    rcases h1 with h1 | h1
    · omega
    · exact h1⟩
  have hln : ((ops.toList.drop k).take (n - k)).length = n - k := by simp; omega
  have H := wpAnyL_lex (P := P) (w := w) (md := md) (g := ops.size - n) hsel hs hc hn ((ops.toList.drop k).take (n - k)) k listed a (fun j hj => by
    rw [hln] at hj
    rw [List.getElem?_take, if_pos hj, List.getElem?_drop, Array.getElem?_toList]) (by rw [hln]; omega) inv (by rw [hln]; exact hlex) h
  have := wpAny_of_head (Q' := Q') (g := ops.size - n) (fun listed a' hL => by
    have h2 := wpAny_of_seq (md := md) (Q' := Q') (ops.toList.drop n) n listed a' w (fun j => by rw [List.getElem?_drop, Array.getElem?_toList]) (by rw [List.length_drop, Array.length_toList]; exact hL.1) hL.2
    rwa [List.length_drop, Array.length_toList] at h2) _ _ _ H
  rw [hln, show n - k + (ops.size - n) = ops.size - k by omega] at this
  exact this

theorem wpAny_of_only {Q' : Exit → Act → World → Prop} {B : Nat → Array Bool → Bool} {K : Act → World → Prop} {g m : Nat} (hK : ∀ listed a w, B m listed = true → K a w → wpAny P md ops Q' g listed a w) :
    ∀ (l : List Oper) (k : Nat) (listed : Array Bool) (a : Act) (w : World), (∀ j, j < l.length → l[j]? = ops[k + j]?) → k + l.length = m → onlyB md ops B l.length k listed = true →
    wpList P ops (Exit.then K Q') l a w → wpAny P md ops Q' (l.length + g) listed a w
  | [], k, listed, a, w, _, hk, hB, h => by
    have : k = m := by simpa using hk
    subst this
    rw [List.length_nil, Nat.zero_add]
    exact hK _ _ _ (by simpa [onlyB] using hB) h
  | o :: l, k, listed, a, w, hl, hk, hB, h => by
    have h0 : ops[k]? = some o := by simpa using (hl 0 (by simp)).symm
    simp only [List.length_cons, onlyB, Bool.and_eq_true, decide_eq_true_eq] at hB
    rw [List.length_cons, show l.length + 1 + g = (l.length + g) + 1 by omega]
    refine ⟨fun h1 => (by rw [hB.1] at h1; cases h1), fun i hi => ?_⟩
    rw [hB.1] at hi
    have hik : i = k := by simpa using hi
    subst hik
    have hw : wpOp P ops Q' i (wpList P ops (Exit.then K Q') l) a w := by unfold wpOp; simp only [h0]; exact h
    exact wpOp_mono (fun a' w' h' => wpAny_of_only hK l (i + 1) _ a' w' (fun j hj => by have := hl (j + 1) (by simp; omega); simpa [Nat.add_assoc, Nat.add_comm 1 j] using this) (by simp only [List.length_cons] at hk; omega) hB.2 h') hw

/-- The check of the whole. -/
def twoB (ops : Array Oper) (n1 c n2 : Nat) : Bool :=
  Region.noSelect ops && decide (n1 < ops.size) && decide (0 < c) && decide (n1 + c < n2) && decide (n2 < ops.size) && Region.sinkB .any ops n1 && chain2B .any ops n1 &&
    lexHead2 .any ops (onlyB .any ops (midB .any ops n2) c) n1 0 (Array.replicate ops.size false)

theorem onlyB_ready {B : Nat → Array Bool → Bool} {c k : Nat} {listed : Array Bool} (hc : 0 < c) (h : onlyB md ops B c k listed = true) : ∀ j ∈ Region.ready md ops listed, k ≤ j := by
  obtain ⟨c', rfl⟩ : ∃ c', c = c' + 1 := ⟨c - 1, by omega⟩
  intro j hj
  simp only [onlyB, Bool.and_eq_true, decide_eq_true_eq] at h
  rw [h.1] at hj
  have : j = k := by simpa using hj
  omega

theorem wp_region_two {id : Nat} {Q : Exit → Act → World → Prop} {a : Act} {l : List Oper} (n1 c n2 : Nat) (hm : P.follows .mixedOrders = true) (hB : twoB l.toArray n1 c n2 = true)
    (h : wpStill P l.toArray { w with drawn := w.drawn + 1 } (fun a1 => wpList P l.toArray (Exit.then (fun a2 w2 => wpStill P l.toArray w2 (fun a3 => wpList P l.toArray Q (l.drop n2) a3 w2) ((l.drop (n1 + c)).take (n2 - (n1 + c))) a2) Q) ((l.drop n1).take c) a1 { w with drawn := w.drawn + 1 }) (l.take n1) a) :
    (Code.region id l.toArray true).wp P Q a w := by
  simp only [twoB, Bool.and_eq_true, decide_eq_true_eq] at hB
  obtain ⟨⟨⟨⟨⟨⟨⟨hsel, hn1⟩, hc0⟩, hn2⟩, hn2s⟩, hs⟩, hc⟩, hlex⟩ := hB
  have hsz : l.toArray.size = l.length := by simp
  rw [hsz] at hn1 hn2s
  have htl : (l.take n1).length = n1 := by simp; omega
  have hml : ((l.drop n1).take c).length = c := by simp; omega
  have inv0 : HeadInv .any l.toArray n1 (Array.replicate l.toArray.size false) :=
    ⟨by simp, fun j oj _ hl => (by rw [getD_replicate_false] at hl; cases hl), fun t _ ht => getD_in (by simpa using ht) (getD_replicate_false _ _)⟩
  have H := wpAnyL_lex2 (md := .any) (B := onlyB .any l.toArray (midB .any l.toArray n2) c) (fun listed hb => onlyB_ready hc0 hb) hsel hs hc (by rw [hsz]; exact hn1) (l.take n1) 0 _ a (fun j hj => by
    have hj' : j < n1 := by rw [htl] at hj; exact hj
    simp [hj']) (by simpa using htl) inv0 (by rw [htl]; exact hlex) h
  refine wp_region_any hm ?_
  have H2 := wpAny_of_head (Q' := Q) (g := c + (l.toArray.size - (n1 + c))) (fun listed a' hL => by
    have h2 := wpAny_of_only (md := .any) (Q' := Q) (m := n1 + c) (g := l.toArray.size - (n1 + c)) (B := midB .any l.toArray n2) (fun listed a w hb hk => wpAny_of_mid hsel hb (by simpa using hk)) ((l.drop n1).take c) n1 listed a' _ (fun j hj => by
      rw [hml] at hj
      rw [List.getElem?_take, if_pos hj, List.getElem?_drop]
      simp) (by rw [hml]) (by rw [hml]; exact hL.1) hL.2
    rwa [hml] at h2) _ _ _ H
  rw [htl, show n1 + (c + (l.toArray.size - (n1 + c))) = l.toArray.size by rw [hsz]; omega] at H2
  exact H2
end

end Go.Proofs.Ytonlpihbpbnnmaa
