/- Rows of numbers of their own, one behind the other, in the program. -/
import Derived.Test.YtaafbdpdpndplaaRowN
import Derived.Test.YtaafbdpdpndplaaRowsN
import Derived.Test.YtaafbdpdpndplaaPlc
import Derived.OrdersIn
import Derived.OwnWalkIn
namespace Go.Proofs.Ytaafbdpdpndplaa
open Go.RowKit Go.Shelf

attribute [local go_sem] Oper.semAt_some

def ncF (Us : List (List Int)) : List (List Int) × Int := if Us.length ≤ 200 then (Us, 0) else ([], 3)
theorem lI_left {Ls : List (List Int)} {x : List Int} {i : Nat} (h : i < Ls.length) : lI (Ls ++ [x]) i = lI Ls i := by
  unfold lI
  rw [List.getD_eq_getElem?_getD, List.getD_eq_getElem?_getD, List.getElem?_append_left h]
theorem lI_last {Ls : List (List Int)} {x : List Int} : lI (Ls ++ [x]) Ls.length = x := by
  unfold lI
  rw [List.getD_eq_getElem?_getD, List.getElem?_append_right (Nat.le_refl _)]
  simp

structure NcRows (n A : Nat) (gf cf : Nat → Nat) (pre : List (List Int)) (W : World) : Prop where
  row : ∀ i, i < pre.length → A ≤ gf i ∧ (lI pre i).length = n ∧ OwnI W (gf i) (cf i) (lI pre i)
  apart : ∀ i k, i < pre.length → k < pre.length → i ≠ k → gf i ≠ gf k
def NcAt (n B A : Nat) (pre : List (List Int)) (W : World) : Prop := ∃ u gf cf, Boxed W B 36 u ∧ W.ownsRow A 46 1 u pre.length (rowsN n gf cf pre.length) ∧ NcRows n A gf cf pre W

theorem NcRows.same {n A : Nat} {gf cf : Nat → Nat} {pre : List (List Int)} {W W' : World} (h : NcRows n A gf cf pre W) (hk : ∀ k cur t fr, A ≤ k → W.heap[k]? = some (Obj.cells cur t fr) → W'.heap[k]? = W.heap[k]?) : NcRows n A gf cf pre W' := by
  refine ⟨fun i hi => ?_, h.apart⟩
  obtain ⟨h1, h2, h3⟩ := h.row i hi
  refine ⟨h1, h2, h3.keep ?_⟩
  obtain ⟨cur, hc, _⟩ := h3
  exact hk _ _ _ _ h1 hc
theorem NcAt.same {n B A : Nat} {pre : List (List Int)} {W W' : World} (h : NcAt n B A pre W) (hk : ∀ k cur t fr, (k = B ∨ A ≤ k) → W.heap[k]? = some (Obj.cells cur t fr) → W'.heap[k]? = W.heap[k]?) : NcAt n B A pre W' := by
  obtain ⟨u, gf, cf, hu, hrow, hR⟩ := h
  exact ⟨u, gf, cf, (hk B _ _ _ (.inl rfl) hu).trans hu, rowN_same hrow (fun k c t f h1 h2 => hk k c t f (.inr h1) h2), hR.same (fun k c t f h1 h2 => hk k c t f (.inr h1) h2)⟩
theorem ncAt_own (n B A : Nat) : Own (NcAt n B A) := fun s W W' row h hg hr => h.same fun k cur t fr _ hc => hg.block k (Array.getElem?_eq_some_iff.1 hc).1 (fun e => by
  obtain ⟨o, ho, hcl⟩ := hr k e.symm
  rw [hc] at ho
  cases ho
  cases hcl)
theorem NcRows.fresh {n A B k cap : Nat} {gf cf : Nat → Nat} {pre : List (List Int)} {W : World} {q : Option Addr} (h : NcRows n A gf cf pre W) (hr : W.ownsRow A 46 1 (.slice q k cap) k (rowsN n gf cf k)) (hl : pre.length = k) (hB : B ≤ A) : FreshP B W q k pre := by
  refine ⟨hl, ?_⟩
  rcases hr.2 with ⟨_, h0⟩ | ⟨g, cap', cur, hv, hb, hg, hn, hm, hs, ht⟩
  · exact .inl h0
  · injection hv with v1 v2 v3
    subst v1
    have hgz : g < W.heap.size := (Array.getElem?_eq_some_iff.1 hg).1
    have hne : ∀ i, i < pre.length → gf i ≠ g := fun i hi e => by
      obtain ⟨_, _, h3⟩ := h.row i hi
      rw [e] at h3
      obtain ⟨cur2, hc2, _⟩ := h3
      have := Option.some.inj (hg.symm.trans hc2)
      injection this with _ h2
      exact absurd h2 (by decide)
    refine .inr ⟨g, fun i => (gf i, 0), rfl, hgz, Nat.le_trans hB hb, fun i hi => ⟨cf i, ?_⟩, fun i hi => ?_, fun i k' hi hk hik => .inl (h.apart i k' hi hk hik)⟩
    · rw [cell_of_row W g _ cur _ _ hg]
      have h1 : (cur.toList.take (k * 1))[i]? = cur.toList[i]? := by rw [List.getElem?_take, if_pos (by omega)]
      rw [ht, rowsN_at (by omega)] at h1
      rw [← Array.getElem?_toList, ← h1, (h.row i hi).2.1]
    · obtain ⟨h1, h2, h3⟩ := h.row i hi
      exact ⟨Nat.le_trans hB h1, hne i hi, h3.lt, h3.reads, fun j hj => h3.free _⟩

/-- An append at a step of a region that draws its order, in a round. -/
theorem stepIn_append_own {F : Fence} {nF : Nat} {P : Program} {w : World} {ops : Array Oper} {o : Oper} {a : Act} {K : Act → World → Prop} {Q : Exit → Act → World → Prop} {E : Prop} (hgd : o.guard = none) (s x : Operand) (t : TypeId)
    (hop : o.op = Op.call { callee := Callee.builtin Builtin.append, args := #[s, x], argTypes := #[t, t] })
    (base : Nat) (e : TypeId) (i : TypeInfo) (z : Value) (size bytes : Nat) (h1 : P.underlying t = some (.slice e)) (h2 : P.info? e = some i) (h3 : i.zero = some z) (h4 : i.size = size) (h5 : i.bytes = bytes) (h6 : z.cells.size = size) (h7 : 0 < size)
    (v : Value) (k : Nat) (xs : List Value) (hs : a.eval s = v) (hown : w.ownsRow base e size v k xs) (ad : Addr) (m c : Nat) (news : List Value) (hx : a.eval x = .slice (some ad) m c) (hn : news.length = m * size)
    (hc : ∀ j u, news[j]? = some u → w.cell? (ad.add j) = some u) (h1c : ∀ u ∈ news, u.oneCell' = true) (b1 : k + m ≤ maxLen) (b2 : (k + m) * bytes ≤ 140737488355328) (b3 : base ≤ w.heap.size)
    (hK : ∀ v' w', w'.ownsRow base e size v' (k + m) (xs ++ news) → w.grownBy w' v.ownBlock → K (a.put o.dst v') w') :
    if Region.wanted o (yielded ops a.tmps) = true then Oper.wpIn F nF P o a w K Q else E := by
  have hw : Region.wanted o (yielded ops a.tmps) = true := by simp [Region.wanted, hgd]
  rw [if_pos hw]
  obtain ⟨v', w', hrun, r1, r2, r3⟩ := run_append_own (P := P) w base t o.type e i z size bytes h1 h2 h3 h4 h5 h6 h7 v k xs hown ad m c news hn hc h1c b1 b2 b3
  unfold Oper.wpIn
  refine ⟨?_, ?_⟩
  · simp [Oper.about, hop, resolve, Target.leads, Sem.run_pure]
  · rw [Oper.semAt_plain F _ _ (by rw [hop]; intro c hc'; cases hc')]
    simp [execOp, hop, resolve, invoke, builtin, hs, hx, hrun, Result.andThen]
    exact hK v' w' r1 r2

/-- The two results, read out of their cells. -/
theorem results_lists {fn : Func} {p q : Tmp} (h : fn.results = #[.cell p 36, .cell q 2]) (tmps : Array Value) (w : World) (g1 g2 : Nat) (a : Option Addr) (n c : Nat) (y : Int) (h1 : tmps.getD p undef = .pointer (some ⟨g1, 0, none⟩)) (h2 : tmps.getD q undef = .pointer (some ⟨g2, 0, none⟩)) (hx : Boxed w g1 36 (.slice a n c)) (hy : Boxed w g2 2 (.int .i64 y)) :
    (results fn tmps).run Try.prog w = .ok (.tuple #[.slice a n c, .int .i64 y]) w := by
  have e1 : tmps[p]?.getD undef = .pointer (some ⟨g1, 0, none⟩) := by simpa using h1
  have e2 : tmps[q]?.getD undef = .pointer (some ⟨g2, 0, none⟩) := by simpa using h2
  have ha : (isAgg 2).run Try.prog w = .ok false w := by
    unfold isAgg
    rw [Sem.run_bind, run_underlying Try.underlying2 w]
    rfl
  have hb : (isAgg 36).run Try.prog w = .ok false w := by
    unfold isAgg
    rw [Sem.run_bind, run_underlying Try.underlying36 w]
    rfl
  have c1 := hx.cell
  have c2 := hy.cell
  simp [results, h, e1, e2, asAddr, loadVar, Sem.run_bind, ha, hb, c1, c2, Result.andThen]

end Go.Proofs.Ytaafbdpdpndplaa
