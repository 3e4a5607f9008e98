/- NormalColourings in the program: rows of their own, one behind the other. -/
import Derived.Test.YtogdcoioflcdiaaCloneN
import Derived.Test.YtogdcoioflcdiaaPlc
namespace Go.Proofs.Ytogdcoioflcdiaa
open Go.RowKit Go.Shelf

attribute [local go_sem] Oper.semAt_some

theorem infoSlN : (Try.prog.info? 25).map (fun i => (i.zero, i.size, i.bytes)) = some (some (.slice none 0 0), 1, 24) := by kernel_rfl
def ncF (Us : List (List Int)) : List (List Int) × Int := if Us.length ≤ 200 then (Us, 0) else ([], 3)
def rowsN (n : Nat) (gf cf : Nat → Nat) (k : Nat) : List Value := (List.range k).map fun i => Value.slice (some ⟨gf i, 0, none⟩) n (cf i)
def updN (f : Nat → Nat) (k a i : Nat) : Nat := if i = k then a else f i
theorem rowsN_push (n : Nat) (gf cf : Nat → Nat) (k g c : Nat) : rowsN n (updN gf k g) (updN cf k c) (k + 1) = rowsN n gf cf k ++ [.slice (some ⟨g, 0, none⟩) n c] := by
  unfold rowsN
  rw [List.range_succ, List.map_append]
  congr 1
  · refine List.map_congr_left fun i hi => ?_
    have h : i < k := List.mem_range.1 hi
    unfold updN
    rw [if_neg (by omega), if_neg (by omega)]
  · simp [updN]
theorem rowsN_at {n k i : Nat} {gf cf : Nat → Nat} (hi : i < k) : (rowsN n gf cf k)[i]? = some (.slice (some ⟨gf i, 0, none⟩) n (cf i)) := by
  unfold rowsN
  rw [List.getElem?_map, List.getElem?_range hi]
  rfl
theorem lI_left {Ls : List (List Int)} {x : List Int} {i : Nat} (h : i < Ls.length) : lI (Ls ++ [x]) i = lI Ls i := by
  unfold lI
  rw [List.getD_eq_getElem?_getD, List.getD_eq_getElem?_getD, List.getElem?_append_left h]
theorem lI_last {Ls : List (List Int)} {x : List Int} : lI (Ls ++ [x]) Ls.length = x := by
  unfold lI
  rw [List.getD_eq_getElem?_getD, List.getElem?_append_right (Nat.le_refl _)]
  simp

structure NcRows (n A : Nat) (gf cf : Nat → Nat) (pre : List (List Int)) (W : World) : Prop where
  row : ∀ i, i < pre.length → A ≤ gf i ∧ (lI pre i).length = n ∧ OwnI W (gf i) (cf i) (lI pre i)
  apart : ∀ i k, i < pre.length → k < pre.length → i ≠ k → gf i ≠ gf k
def NcAt (n B A : Nat) (pre : List (List Int)) (W : World) : Prop := ∃ u gf cf, Boxed W B 42 u ∧ W.ownsRow A 25 1 u pre.length (rowsN n gf cf pre.length) ∧ NcRows n A gf cf pre W

theorem rowN_same {w w' : World} {B n sz : Nat} {e : TypeId} {v : Value} {xs : List Value} (h : w.ownsRow B e sz v n xs) (hk : ∀ k cur t fr, B ≤ k → w.heap[k]? = some (Obj.cells cur t fr) → w'.heap[k]? = w.heap[k]?) : w'.ownsRow B e sz v n xs := by
  refine ⟨h.1, ?_⟩
  rcases h.2 with hn | ⟨g, c, cur, hv, hb, hg, r⟩
  · exact .inl hn
  · exact .inr ⟨g, c, cur, hv, hb, (hk g _ _ _ hb hg).trans hg, r⟩
theorem NcRows.same {n A : Nat} {gf cf : Nat → Nat} {pre : List (List Int)} {W W' : World} (h : NcRows n A gf cf pre W) (hk : ∀ k cur t fr, A ≤ k → W.heap[k]? = some (Obj.cells cur t fr) → W'.heap[k]? = W.heap[k]?) : NcRows n A gf cf pre W' := by
  refine ⟨fun i hi => ?_, h.apart⟩
  obtain ⟨h1, h2, h3⟩ := h.row i hi
  refine ⟨h1, h2, h3.keep ?_⟩
  obtain ⟨cur, hc, _⟩ := h3
  exact hk _ _ _ _ h1 hc
theorem NcAt.same {n B A : Nat} {pre : List (List Int)} {W W' : World} (h : NcAt n B A pre W) (hk : ∀ k cur t fr, (k = B ∨ A ≤ k) → W.heap[k]? = some (Obj.cells cur t fr) → W'.heap[k]? = W.heap[k]?) : NcAt n B A pre W' := by
  obtain ⟨u, gf, cf, hu, hrow, hR⟩ := h
  exact ⟨u, gf, cf, (hk B _ _ _ (.inl rfl) hu).trans hu, rowN_same hrow (fun k c t f h1 h2 => hk k c t f (.inr h1) h2), hR.same (fun k c t f h1 h2 => hk k c t f (.inr h1) h2)⟩
theorem ncAt_own (n B A : Nat) : Own (NcAt n B A) := fun s W W' row h hg hr => h.same fun k cur t fr _ hc => hg.block k (Array.getElem?_eq_some_iff.1 hc).1 (fun e => by
  obtain ⟨o, ho, hcl⟩ := hr k e.symm
  rw [hc] at ho
  cases ho
  cases hcl)
theorem row_formN {w : World} {B n sz : Nat} {e : TypeId} {v : Value} {xs : List Value} (h : w.ownsRow B e sz v n xs) : ∃ q cap, v = .slice q n cap := by
  rcases h.2 with ⟨rfl, h0⟩ | ⟨g, cap, cur, rfl, _⟩
  · exact ⟨none, 0, by rw [h0]⟩
  · exact ⟨_, _, rfl⟩
theorem NcRows.fresh {n A B k cap : Nat} {gf cf : Nat → Nat} {pre : List (List Int)} {W : World} {q : Option Addr} (h : NcRows n A gf cf pre W) (hr : W.ownsRow A 25 1 (.slice q k cap) k (rowsN n gf cf k)) (hl : pre.length = k) (hB : B ≤ A) : FreshP B W q k pre := by
  refine ⟨hl, ?_⟩
  rcases hr.2 with ⟨_, h0⟩ | ⟨g, cap', cur, hv, hb, hg, hn, hm, hs, ht⟩
  · exact .inl h0
  · injection hv with v1 v2 v3
    subst v1
    have hgz : g < W.heap.size := (Array.getElem?_eq_some_iff.1 hg).1
    have hne : ∀ i, i < pre.length → gf i ≠ g := fun i hi e => by
      obtain ⟨_, _, h3⟩ := h.row i hi
      rw [e] at h3
      obtain ⟨cur2, hc2, _⟩ := h3
      have := Option.some.inj (hg.symm.trans hc2)
      injection this with _ h2
      exact absurd h2 (by decide)
    refine .inr ⟨g, fun i => (gf i, 0), rfl, hgz, Nat.le_trans hB hb, fun i hi => ⟨cf i, ?_⟩, fun i hi => ?_, fun i k' hi hk hik => .inl (h.apart i k' hi hk hik)⟩
    · rw [cell_of_row W g _ cur _ _ hg]
      have h1 : (cur.toList.take (k * 1))[i]? = cur.toList[i]? := by rw [List.getElem?_take, if_pos (by omega)]
      rw [ht, rowsN_at (by omega)] at h1
      rw [← Array.getElem?_toList, ← h1, (h.row i hi).2.1]
    · obtain ⟨h1, h2, h3⟩ := h.row i hi
      exact ⟨Nat.le_trans hB h1, hne i hi, h3.lt, h3.reads, fun j hj => h3.free _⟩

/-- An append at a step of a region that draws its order, in a round. -/
theorem stepIn_append_own {F : Fence} {nF : Nat} {P : Program} {w : World} {ops : Array Oper} {o : Oper} {a : Act} {K : Act → World → Prop} {Q : Exit → Act → World → Prop} {E : Prop} (hgd : o.guard = none) (s x : Operand) (t : TypeId)
    (hop : o.op = Op.call { callee := Callee.builtin Builtin.append, args := #[s, x], argTypes := #[t, t] })
    (base : Nat) (e : TypeId) (i : TypeInfo) (z : Value) (size bytes : Nat) (h1 : P.underlying t = some (.slice e)) (h2 : P.info? e = some i) (h3 : i.zero = some z) (h4 : i.size = size) (h5 : i.bytes = bytes) (h6 : z.cells.size = size) (h7 : 0 < size)
    (v : Value) (k : Nat) (xs : List Value) (hs : a.eval s = v) (hown : w.ownsRow base e size v k xs) (ad : Addr) (m c : Nat) (news : List Value) (hx : a.eval x = .slice (some ad) m c) (hn : news.length = m * size)
    (hc : ∀ j u, news[j]? = some u → w.cell? (ad.add j) = some u) (h1c : ∀ u ∈ news, u.oneCell' = true) (b1 : k + m ≤ maxLen) (b2 : (k + m) * bytes ≤ 140737488355328) (b3 : base ≤ w.heap.size)
    (hK : ∀ v' w', w'.ownsRow base e size v' (k + m) (xs ++ news) → w.grownBy w' v.ownBlock → K (a.put o.dst v') w') :
    if Region.wanted o (yielded ops a.tmps) = true then Oper.wpIn F nF P o a w K Q else E := by
  have hw : Region.wanted o (yielded ops a.tmps) = true := by simp [Region.wanted, hgd]
  rw [if_pos hw]
  obtain ⟨v', w', hrun, r1, r2, r3⟩ := run_append_own (P := P) w base t o.type e i z size bytes h1 h2 h3 h4 h5 h6 h7 v k xs hown ad m c news hn hc h1c b1 b2 b3
  unfold Oper.wpIn
  refine ⟨?_, ?_⟩
  · simp [Oper.about, hop, resolve, Target.leads, Sem.run_pure]
  · rw [Oper.semAt_plain F _ _ (by rw [hop]; intro c hc'; cases hc')]
    simp [execOp, hop, resolve, invoke, builtin, hs, hx, hrun, Result.andThen]
    exact hK v' w' r1 r2

/-- One row more. -/
theorem nc_push {n n0 B Ab k : Nat} {pre : List (List Int)} {x : List Int} {W W5 Z w1 : World} {u v' : Value} {gf cf : Nat → Nat} {g5 cap5 : Nat}
    (hu : Boxed W B 42 u) (hrow : W.ownsRow (Ab + 2) 25 1 u k (rowsN n gf cf k)) (hk : pre.length = k) (hR : NcRows n (Ab + 2) gf cf pre W)
    (hx : x.length = n) (hb5 : Below W.heap.size W W5) (hO5 : OwnI W5 g5 cap5 x) (hg5 : W.heap.size ≤ g5) (hA : Ab + 2 ≤ W.heap.size) (hB : B < Ab) (hn0 : n0 ≤ B)
    (hZ : Below W5.heap.size W5 Z) (hown : w1.ownsRow (Ab + 2) 25 1 v' (k + 1) (rowsN n gf cf k ++ [.slice (some ⟨g5, 0, none⟩) n cap5])) (hgrow : Z.grownBy w1 u.ownBlock) :
    (∀ Bk, KeepsFrom Bk W (w1.setCell ⟨B, 0, none⟩ v')) ∧ KeptG n0 Ab (Ab + 1) W (w1.setCell ⟨B, 0, none⟩ v') ∧ NcAt n B (Ab + 2) (pre ++ [x]) (w1.setCell ⟨B, 0, none⟩ v') ∧ Below B W (w1.setCell ⟨B, 0, none⟩ v') := by
  have hz5 := hb5.size
  have hzZ := hZ.size
  have hz1 := hgrow.size
  have hob : ∀ i, some i = u.ownBlock → Ab + 2 ≤ i ∧ i < W.heap.size ∧ ∃ cur fr, W.heap[i]? = some (.cells cur 25 fr) := fun i e => by
    rcases hrow.2 with ⟨rfl, _⟩ | ⟨g, cap, cur, rfl, hb, hg, _⟩
    · cases e
    · obtain rfl : i = g := Option.some.inj e
      exact ⟨hb, (Array.getElem?_eq_some_iff.1 hg).1, cur, _, hg⟩
  have h1k : ∀ i, i < W5.heap.size → some i ≠ u.ownBlock → w1.heap[i]? = W5.heap[i]? := fun i hi hne => (hgrow.block i (by omega) hne).trans (hZ.block i hi)
  have hk5 : ∀ i, i < W5.heap.size → i ≠ B → some i ≠ u.ownBlock → (w1.setCell ⟨B, 0, none⟩ v').heap[i]? = W5.heap[i]? := fun i hi hiB hne => (heap_setCell_other w1 ⟨B, 0, none⟩ i _ (by show i ≠ B; exact hiB)).trans (h1k i hi hne)
  have hkW : ∀ i, i < W.heap.size → i ≠ B → some i ≠ u.ownBlock → (w1.setCell ⟨B, 0, none⟩ v').heap[i]? = W.heap[i]? := fun i hi hiB hne => (hk5 i (by omega) hiB hne).trans (hb5.block i hi)
  have huz := hu.lt
  have hu1 : Boxed w1 B 42 u := ((h1k B (by omega) (fun e => by have := (hob B e).1; omega)).trans (hb5.block B huz)).trans hu
  have hsz : W.heap.size ≤ (w1.setCell ⟨B, 0, none⟩ v').heap.size := by simp [World.setCell]; omega
  have htp : ∀ i cur t fr, W.heap[i]? = some (.cells cur t fr) → t ≠ 25 → some i ≠ u.ownBlock := fun i cur t fr hc ht e => by
    obtain ⟨_, _, cur2, fr2, hc2⟩ := hob i e
    rw [hc] at hc2
    injection hc2 with hc2
    injection hc2 with _ hc3
    exact ht hc3
  refine ⟨fun Bk => ⟨hsz, fun i o _ hi ho => ?_⟩, ⟨⟨hsz, fun i hi hl => hkW i hl (by omega) (fun e => by have := (hob i e).1; omega), fun i cur t fr hi ht => hkW i (Array.getElem?_eq_some_iff.1 hi).1 (fun e => ?_) (htp i _ _ _ hi (fun e => ?_))⟩, hkW _ (by omega) (by omega) (fun e => by have := (hob _ e).1; omega), hkW _ (by omega) (by omega) (fun e => by have := (hob _ e).1; omega)⟩, ⟨v', updN gf k g5, updN cf k cap5, Boxed.set _ hu1, ?_, ⟨fun i hi => ?_, fun i j hi hj hij => ?_⟩⟩, ⟨?_, ?_, ?_, hsz, fun i hi => hkW i (by omega) (by omega) (fun e => by have := (hob i e).1; omega)⟩⟩
  · refine (hkW i (Array.getElem?_eq_some_iff.1 hi).1 (fun e => ?_) (fun e => ?_)).trans hi
    · subst e
      rw [show W.heap[i]? = _ from hu] at hi
      cases hi
      cases ho
    · obtain ⟨_, _, cur2, fr2, hc2⟩ := hob i e
      rw [hc2] at hi
      cases hi
      cases ho
  · subst e
    rw [show W.heap[i]? = _ from hu] at hi
    injection hi with hi
    injection hi with _ hi2
    rcases ht with h | h <;> (rw [h] at hi2; exact absurd hi2 (by decide))
  · subst e
    rcases ht with h | h <;> exact absurd h (by decide)
  · rw [List.length_append, hk]
    show World.ownsRow _ _ _ _ _ (k + 1) (rowsN n (updN gf k g5) (updN cf k cap5) (k + 1))
    rw [rowsN_push]
    exact hown.kept (grownBy_setCell' w1 B v') (.inr (hu1.not_row (by decide) hown).symm)
  · rw [List.length_append, hk] at hi
    by_cases e : i = k
    · subst e
      have e1 : updN gf i g5 i = g5 := if_pos rfl
      have e2 : updN cf i cap5 i = cap5 := if_pos rfl
      rw [e1, e2, ← hk, lI_last]
      exact ⟨by omega, hx, hO5.keep (hk5 g5 hO5.lt (by omega) (fun e => by have := (hob g5 e).2.1; omega))⟩
    · have hi2 : i < pre.length := by have : i < k + 1 := hi; omega
      have e1 : updN gf k g5 i = gf i := if_neg e
      have e2 : updN cf k cap5 i = cf i := if_neg e
      rw [e1, e2, lI_left hi2]
      obtain ⟨h1, h2, h3⟩ := hR.row i hi2
      refine ⟨h1, h2, h3.keep (hkW _ h3.lt (by omega) ?_)⟩
      obtain ⟨cur, hc, _⟩ := h3
      exact htp _ _ _ _ hc (by decide)
  · rw [List.length_append, hk] at hi hj
    have hi' : i < k + 1 := hi
    have hj' : j < k + 1 := hj
    unfold updN
    by_cases e : i = k
    · have e2 : j ≠ k := by omega
      rw [if_pos e, if_neg e2]
      have := (hR.row j (by omega)).2.2.lt
      omega
    · rw [if_neg e]
      by_cases e2 : j = k
      · rw [if_pos e2]
        have := (hR.row i (by omega)).2.2.lt
        omega
      · rw [if_neg e2]
        exact hR.apart i j (by omega) (by omega) hij
  · exact hgrow.os.trans (hZ.os.trans hb5.os)
  · exact hgrow.tape.trans (hZ.tape.trans hb5.tape)
  · exact hgrow.output.trans (hZ.output.trans hb5.output)

end Go.Proofs.Ytogdcoioflcdiaa
