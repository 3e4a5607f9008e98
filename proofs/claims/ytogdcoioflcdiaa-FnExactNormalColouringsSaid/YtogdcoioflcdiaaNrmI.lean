/- The search of normal colourings in the program: goOnColouring, which hands on the function that takes the colourings. -/
import Derived.Test.YtogdcoioflcdiaaNrmA
import Derived.Test.YtogdcoioflcdiaaColI
import Derived.Test.YtogdcoioflcdiaaMovesN
import Derived.Test.YtogdcoioflcdiaaRowsM
import Derived.RangeFuncBox
import Derived.Shelf.Abstract
import Derived.Shelf.RegionOpen
import Derived.WalkKit
import Derived.OwnWalkIn
import Derived.TacticsInMore
import Derived.LoopNIn
import Derived.LoopIn
import Derived.Maps.AppendAt
import Derived.BigQuiet
import Derived.Deep.RegionLaw
namespace Go.Proofs.Ytogdcoioflcdiaa
open Go.RowKit Go.Shelf

attribute [local go_sem] Oper.semAt_some

theorem roundIn_any {F : Fence} (hd : F.depth = none) {m m' : Nat} {P : Program} {l : Nat} {f : FuncId} {tmps : Array Value} {assign body : Code} {w : World} {R : Ending → World → Prop}
    (h : RoundIn F m P l f tmps assign body w R) : RoundIn F m' P l f tmps assign body w R := ⟨h.1, fun c cs _ => h.2 c cs (fun d h => by rw [hd] at h; cases h)⟩
theorem yieldAt_any {F : Fence} (hd : F.depth = none) {m : Nat} (m' : Nat) {P : Program} {l : Nat} {args : Array Value} {W : World} {R : Ending → World → Prop} (h : YieldAt F m P l args W R) : YieldAt F m' P l args W R := by
  obtain ⟨fn, tmps, assign, body, hy, hR⟩ := h
  exact ⟨fn, tmps, assign, body, hy, roundIn_any hd hR⟩
/-- append where there is room in a row of the call's own, as one step of a region that draws. -/
theorem step_append_fits {P : Program} {ops : Array Oper} {o : Oper} {a : Act} {w : World} {K : Act → World → Prop} {Q : Exit → Act → World → Prop} {E : Prop}
    (hg : o.guard = none) (s x : Operand) (t : TypeId) (hop : o.op = Op.call { callee := Callee.builtin Builtin.append, args := #[s, x], argTypes := #[t, t] })
    (base : Nat) (e : TypeId) (i : TypeInfo) (size : Nat) (h1 : P.underlying t = some (.slice e)) (h2 : P.info? e = some i) (h4 : i.size = size)
    (g k cap : Nat) (xs : List Value) (hs : a.eval s = .slice (some ⟨g, 0, none⟩) k cap) (hown : w.ownsRow base e size (.slice (some ⟨g, 0, none⟩) k cap) k xs) (ad : Addr) (m c : Nat) (news : List Value) (hx : a.eval x = .slice (some ad) m c) (hn : news.length = m * size)
    (hc : ∀ j u, news[j]? = some u → w.cell? (ad.add j) = some u) (h1c : ∀ u ∈ news, u.oneCell' = true) (b1 : k + m ≤ cap)
    (hK : ∀ w', w'.ownsRow base e size (.slice (some ⟨g, 0, none⟩) (k + m) cap) (k + m) (xs ++ news) → w.grownBy w' (some g) → K (a.put o.dst (.slice (some ⟨g, 0, none⟩) (k + m) cap)) w') :
    if Region.wanted o (yielded ops a.tmps) = true then Oper.wp P o a w K Q else E := by
  have hw : Region.wanted o (yielded ops a.tmps) = true := by simp [Region.wanted, hg]
  rw [if_pos hw]
  obtain ⟨w', hrun, r1, r2⟩ := run_append_fits (P := P) w base t o.type e i size h1 h2 h4 g k cap xs hown ad m c news hn hc h1c b1
  unfold Oper.wp
  simp [execOp, hop, resolve, invoke, builtin, hs, hx, hrun, Result.andThen]
  exact hK _ r1 r2
theorem OwnI.front {w : World} {g cap : Nat} {xs ys : List Int} (h : OwnI w g cap (xs ++ ys)) : OwnI w g cap xs := by
  obtain ⟨cur, hc, hs, hl, hm, r⟩ := h
  rw [List.length_append] at hl
  refine ⟨cur, hc, hs, by omega, hm, fun i hi => ?_⟩
  rw [r i (by rw [List.length_append]; omega)]
  unfold eI
  rw [List.getD_eq_getElem?_getD, List.getD_eq_getElem?_getD, List.getElem?_append_left hi]

/-- What a search leaves alone: what lay below n₀, and all graphs and edges. -/
def KeptH (n0 : Nat) (W W' : World) : Prop := W.heap.size ≤ W'.heap.size ∧ (∀ i, i < n0 → i < W.heap.size → W'.heap[i]? = W.heap[i]?) ∧ ∀ (i : Nat) (cur : Array Value) (t : TypeId) (fr : Nat × Nat), W.heap[i]? = some (.cells cur t fr) → (t = 31 ∨ t = 86) → W'.heap[i]? = W.heap[i]?
/-- What a search asks of a round: this too, and its own row and marks. -/
def KeptG (n0 gc ga : Nat) (W W' : World) : Prop := KeptH n0 W W' ∧ W'.heap[gc]? = W.heap[gc]? ∧ W'.heap[ga]? = W.heap[ga]?
theorem KeptH.refl (n0 : Nat) (W : World) : KeptH n0 W W := ⟨Nat.le_refl _, fun _ _ _ => rfl, fun _ _ _ _ _ _ => rfl⟩
theorem KeptH.trans {n0 : Nat} {A B C : World} (h : KeptH n0 A B) (k : KeptH n0 B C) : KeptH n0 A C :=
  ⟨Nat.le_trans h.1 k.1, fun i h1 h2 => (k.2.1 i h1 (Nat.lt_of_lt_of_le h2 h.1)).trans (h.2.1 i h1 h2), fun i cur t fr hi ht => (k.2.2 i cur t fr ((h.2.2 i cur t fr hi ht).trans hi) ht).trans (h.2.2 i cur t fr hi ht)⟩
theorem KeptH.below {n0 : Nat} {A B : World} (h : Below A.heap.size A B) : KeptH n0 A B := ⟨h.size, fun i _ h2 => h.block i h2, fun i _ _ _ hi _ => h.block i (Array.getElem?_eq_some_iff.1 hi).1⟩
/-- A block of another make has changed. -/
theorem KeptH.grown {n0 g : Nat} {A B : World} (hg : A.grownBy B (some g)) (hn : n0 ≤ g) {cur : Array Value} {t : TypeId} {fr : Nat × Nat} (hc : A.heap[g]? = some (.cells cur t fr)) (h1 : t ≠ 31) (h2 : t ≠ 86) : KeptH n0 A B :=
  ⟨hg.size, fun i h3 h4 => hg.block i h4 (fun e => by have := Option.some.inj e; omega), fun i cur' t' fr' hi ht => hg.block i (Array.getElem?_eq_some_iff.1 hi).1 (fun e => by
    have e1 := Option.some.inj e
    subst e1
    rw [hc] at hi
    cases hi
    rcases ht with h | h
    · exact h1 h
    · exact h2 h)⟩

theorem KeptH.turn {n0 ga : Nat} {A B : World} {ts : List Bool} (ho : OwnC A ga ts) (hg : A.grownBy B (some ga)) (hn : n0 ≤ ga) : KeptH n0 A B := by
  obtain ⟨_, cur, hc, _⟩ := ho
  exact KeptH.grown hg hn hc (by decide) (by decide)
theorem KeptH.app {n0 gc cap : Nat} {A B : World} {xs : List Int} (ho : OwnI A gc cap xs) (hg : A.grownBy B (some gc)) (hn : n0 ≤ gc) : KeptH n0 A B := by
  obtain ⟨cur, hc, _⟩ := ho
  exact KeptH.grown hg hn hc (by decide) (by decide)
theorem turn_on {es : List (Int × Int)} {c : List Int} {X Y C : Nat} (hX : eA es c.length = X) (hY : eB es c.length = Y) (hX2 : X < 20) (hY2 : Y < 20) (hC2 : C < 3) (hf : fitsP es c c.length C) :
    ((takeL es c c.length).set (X * 3 + C) (!(eL (takeL es c c.length) (X * 3 + C)))).set (Y * 3 + C) (!(eL (takeL es c c.length) (Y * 3 + C))) = takeL es (c ++ [(C : Int)]) (c.length + 1) := by
  have h := turn_take (c := c ++ [(C : Int)]) hX hY (eI_app_last c C) hX2 hY2 hC2 ((fits_app (Nat.le_refl _)).2 hf)
  rwa [takeL_app (Nat.le_refl _)] at h
theorem turn_off {es : List (Int × Int)} {c : List Int} {X Y C : Nat} (hX : eA es c.length = X) (hY : eB es c.length = Y) (hX2 : X < 20) (hY2 : Y < 20) (hXY : ¬ X = Y) (hC2 : C < 3) (hf : fitsP es c c.length C) :
    ((takeL es (c ++ [(C : Int)]) (c.length + 1)).set (X * 3 + C) (!(eL (takeL es (c ++ [(C : Int)]) (c.length + 1)) (X * 3 + C)))).set (Y * 3 + C) (!(eL (takeL es (c ++ [(C : Int)]) (c.length + 1)) (Y * 3 + C))) = takeL es c c.length := by
  rw [← turn_on hX hY hX2 hY2 hC2 hf]
  exact turnB_twice (ts := takeL es c c.length) (by rw [takeL_length]; omega) (by rw [takeL_length]; omega) (by omega)

theorem step_append_srch {P : Program} {ops : Array Oper} {o : Oper} {a : Act} {w w5 : World} {K : Act → World → Prop} {Q : Exit → Act → World → Prop} {E : Prop}
    (hg : o.guard = none) (s x : Operand) (t : TypeId) (hop : o.op = Op.call { callee := Callee.builtin Builtin.append, args := #[s, x], argTypes := #[t, t] })
    (i : TypeInfo) (h1 : P.underlying t = some (.slice 2)) (h2 : P.info? 2 = some i) (h4 : i.size = 1)
    {gc n0 n k : Nat} {c : List Int} {ad : Addr} (hB : Below w5.heap.size w5 w) (hs : a.eval s = .slice (some ⟨gc, 0, none⟩) c.length n) (hO : OwnI w5 gc n c) (hgc : n0 ≤ gc) (hcn : c.length < n) (hx : a.eval x = .slice (some ad) 1 1)
    (hc : ∀ j u, [Value.int .i64 (k : Int)][j]? = some u → w.cell? (ad.add j) = some u)
    (hK : ∀ w', OwnI w' gc n (c ++ [(k : Int)]) → (Kept (fun i => i ≠ gc) w5 w' ∧ KeptH n0 w5 w') → K (a.put o.dst (.slice (some ⟨gc, 0, none⟩) (c.length + 1) n)) w') :
    if Region.wanted o (yielded ops a.tmps) = true then Oper.wp P o a w K Q else E := by
  refine step_append_fits hg s x t hop n0 2 i 1 h1 h2 h4 gc c.length n (intVals c) hs ((hO.on hB).row rfl hgc) ad 1 1 [.int .i64 k] hx rfl hc (by simp [Value.oneCell']) hcn ?_
  intro w' hown hgrow
  refine hK w' (OwnI.of_row (base := n0) (by rw [intVals_append]; exact hown) (by simp)).1 ⟨((Kept.refl _ w5).call hB).row hgrow (fun r e h => h (Option.some.inj e).symm), (KeptH.below hB).trans (KeptH.app (hO.on hB) hgrow hgc)⟩
theorem one_ending {e : Ending} {A B : Prop} (h : (e = .returned (.bool true) ∧ A) ∨ (e = .returned (.bool false) ∧ B)) : ∃ go : Bool, e = .returned (.bool go) ∧ ((go = true ∧ A) ∨ (go = false ∧ B)) := by
  rcases h with ⟨rfl, h⟩ | ⟨rfl, h⟩
  · exact ⟨true, rfl, .inl ⟨rfl, h⟩⟩
  · exact ⟨false, rfl, .inr ⟨rfl, h⟩⟩
/-- What lies there when the next edge has its colour: the contract of the search goes on from there. -/
theorem srch_next {n0 gc ga l N b off n c0 r k : Nat} {s : Int} {es : List (Int × Int)} {c : List Int} {pre : List (List Int)} {J Jx : List (List Int) → World → Prop} {W w3 w5 : World}
    (ih : ∀ (c : List Int) (pre : List (List Int)) (W : World), c.length + r = n → ReadsE W b off es → OwnI W gc n c → OwnC W ga (takeL es c c.length) → J pre W → pre.length + (nrmF es r c).length ≤ N →
      Calls Try.prog 137 #[.agg #[.int .i64 s, .slice (some ⟨b, off, none⟩) n c0], .slice (some ⟨gc, 0, none⟩) c.length n, .pointer (some ⟨ga, 0, none⟩), .func (.yield l) #[] #[]] W fun e W' =>
        (e = .returned (.bool true) ∧ J (pre ++ nrmF es r c) W' ∧ OwnI W' gc n c ∧ OwnC W' ga (takeL es c c.length) ∧ KeptH n0 W W') ∨ (e = .returned (.bool false) ∧ ∃ q, q <+: nrmF es r c ∧ Jx (pre ++ q) W'))
    (hJ : ∀ st X Y, J st X → Kept (fun i => i ≠ gc ∧ i ≠ ga) X Y → J st Y) (hne : gc ≠ ga) (_hgc : n0 ≤ gc) (hb : b < n0) (hr3 : ReadsE w3 b off es) (hb3 : b < w3.heap.size)
    (hG3 : w3.heap[W.heap.size]? = some (.cells #[.int .i64 s, .slice (some ⟨b, off, none⟩) n c0] 31 (0, 0)))
    (hT5 : OwnC w5 ga (takeL es (c ++ [(k : Int)]) (c.length + 1))) (hJ5 : J (pre ++ nrmU es r c k) w5) (hK5 : KeptH n0 w3 w5) (hcn : c.length + (r + 1) = n) (hN : (pre ++ nrmU es r c k).length + (nrmF es r (c ++ [(k : Int)])).length ≤ N) :
    ∀ w6, OwnI w6 gc n (c ++ [(k : Int)]) → (Kept (fun i => i ≠ gc) w5 w6 ∧ KeptH n0 w5 w6) →
      w6.cell? ⟨W.heap.size, 0, none⟩ = some (.int .i64 s) ∧ w6.cell? ⟨W.heap.size, 1, none⟩ = some (.slice (some ⟨b, off, none⟩) n c0) ∧ w5.heap.size ≤ w6.heap.size ∧
      ∀ Z, Below w6.heap.size w6 Z → Calls Try.prog 137 #[.agg #[.int .i64 s, .slice (some ⟨b, off, none⟩) n c0], .slice (some ⟨gc, 0, none⟩) (c.length + 1) n, .pointer (some ⟨ga, 0, none⟩), .func (.yield l) #[] #[]] Z fun e W' =>
        (e = .returned (.bool true) ∧ J (pre ++ nrmU es r c k ++ nrmF es r (c ++ [(k : Int)])) W' ∧ OwnI W' gc n c ∧ OwnC W' ga (takeL es (c ++ [(k : Int)]) (c.length + 1)) ∧ KeptH n0 w5 W') ∨ (e = .returned (.bool false) ∧ ∃ q, q <+: nrmF es r (c ++ [(k : Int)]) ∧ Jx (pre ++ nrmU es r c k ++ q) W') := by
  intro w6 hO6 hk6
  have hK6 := hK5.trans hk6.2
  have hgr := (hK6.2.2 _ _ _ _ hG3 (.inl rfl)).trans hG3
  refine ⟨by simp [World.cell?, hgr], by simp [World.cell?, hgr], hk6.1.size, fun Z hZ => ?_⟩
  have hlen : (c ++ [(k : Int)]).length = c.length + 1 := by simp
  have hT6 : OwnC w6 ga (takeL es (c ++ [(k : Int)]) (c.length + 1)) := hT5.keep (hk6.1.same ga (fun e => hne e.symm) hT5.lt)
  have hJ6 : J (pre ++ nrmU es r c k) w6 := hJ _ _ _ hJ5 (hk6.1.mono fun i h => h.1)
  have h := ih (c ++ [(k : Int)]) (pre ++ nrmU es r c k) Z (by rw [hlen]; omega) ((hr3.keep (hK6.2.1 b hb hb3)).on hZ) (hO6.on hZ) (by rw [hlen]; exact hT6.on hZ) (hJ _ _ _ hJ6 ((Kept.refl _ w6).call hZ)) hN
  rw [hlen] at h
  refine h.mono ?_
  rintro e W' (⟨h1, h2, h3, h4, h5⟩ | h1)
  · exact .inl ⟨h1, h2, h3.front, h4, (hk6.2.trans (KeptH.below hZ)).trans h5⟩
  · exact .inr h1

set_option maxRecDepth 100000 in
set_option maxHeartbeats 8000000 in
theorem goOn_any (n0 gc ga l N b off n c0 : Nat) (s : Int) (es : List (Int × Int)) (g : IsG s es) (hn : es.length = n) (hb : b < n0) (hgc : n0 ≤ gc) (hga : n0 ≤ ga) (hne : gc ≠ ga) (J Jx : List (List Int) → World → Prop)
    (hJ : ∀ st X Y, J st X → Kept (fun i => i ≠ gc ∧ i ≠ ga) X Y → J st Y)
    (hY : ∀ m pre x W, J pre W → OwnI W gc n x → x.length = n → ga < W.heap.size → pre.length < N → YieldAt Fence.wide m Try.prog l #[.slice (some ⟨gc, 0, none⟩) n n] W fun e W' => (e = .returned (.bool true) ∧ J (pre ++ [x]) W' ∧ KeptG n0 gc ga W W') ∨ (e = .returned (.bool false) ∧ Jx (pre ++ [x]) W')) :
    ∀ (r : Nat) (c : List Int) (pre : List (List Int)) (W : World), c.length + r = n → ReadsE W b off es → OwnI W gc n c → OwnC W ga (takeL es c c.length) → J pre W → pre.length + (nrmF es r c).length ≤ N →
    Calls Try.prog 137 #[.agg #[.int .i64 s, .slice (some ⟨b, off, none⟩) n c0], .slice (some ⟨gc, 0, none⟩) c.length n, .pointer (some ⟨ga, 0, none⟩), .func (.yield l) #[] #[]] W fun e W' =>
      (e = .returned (.bool true) ∧ J (pre ++ nrmF es r c) W' ∧ OwnI W' gc n c ∧ OwnC W' ga (takeL es c c.length) ∧ KeptH n0 W W') ∨ (e = .returned (.bool false) ∧ ∃ q, q <+: nrmF es r c ∧ Jx (pre ++ q) W') := by
  have hn30 : n ≤ 30 := by have := isG_len g; omega
  intro r
  induction r with
  | zero =>
    intro c pre W hcn hr hO hT h0 hN
    have hcn' : c.length = n := by omega
    have hcl : c.length ≤ 30 := by omega
    have HJ1 := hJ pre W (W.alloc (.cells #[.int .i64 s, .slice (some ⟨b, off, none⟩) n c0] 31)) h0 ((Kept.refl _ W).call (on_alloc _ _))
    have HO := hid hO
    have HT := hid hT
    obtain ⟨fn, tmps, assign, body, hy, hR⟩ := hY 1 pre c _ HJ1 (hO.on (on_alloc _ _)) hcn' (by have := hT.lt; simp; omega) (by rw [nrmF_zero] at hN; simp at hN; omega)
    have hR' := hid hR
    have HN := hid hn
    rw [hcn']
    clear hR hY hJ hN hr hO hT
    refine (callsIn_wide (n := 2)).1 ?_
    refine callsIn_of_wp Try.func137 rfl trivial ?_ rfl
    simp only [Try.ntmps137, List.size_toArray, List.length_cons, List.length_nil, Nat.reduceAdd, Nat.reduceSub, Array.replicate_succ, Array.replicate_zero, List.push_toArray, List.append_toArray, List.nil_append, List.cons_append]
    gi_wp2
    refine hR'.out.mono ?_
    rintro e W3 (⟨rfl, hJ3, hk3⟩ | ⟨rfl, hJx3⟩)
    · gi_wp2
      go_ret
      exact .inl ⟨rfl, hJ3, (HO.out.on (on_alloc _ _)).keep hk3.2.1, by rw [hcn'] at HT; exact (HT.out.on (on_alloc _ _)).keep hk3.2.2, (KeptH.below (on_alloc _ _)).trans hk3.1⟩
    · gi_wp2
      go_ret
      exact .inr ⟨rfl, [c], List.prefix_refl _, hJx3⟩
  | succ r ih =>
    intro c pre W hcn hr hO hT h0 hN
    have hke : c.length < es.length := by omega
    have hok := g.1.2 c.length hke
    have hs20 := g.1.1.2.1
    have hc1 := (hr c.length hke).1
    have hc2 := (hr c.length hke).2
    obtain ⟨X, hX1⟩ : ∃ X : Nat, eA es c.length = X := ⟨_, (Int.toNat_of_nonneg hok.1).symm⟩
    obtain ⟨Y, hY1⟩ : ∃ Y : Nat, eB es c.length = Y := ⟨_, (Int.toNat_of_nonneg hok.2.2.1).symm⟩
    have hX2 : X < 20 := by have := hok.2.1; omega
    have hY2 : Y < 20 := by have := hok.2.2.2.1; omega
    have hXY : ¬ X = Y := fun e => hok.2.2.2.2 (by rw [hX1, hY1, e])
    rw [hX1] at hc1
    rw [hY1] at hc2
    have hbW : b < W.heap.size := reads_lt hr (by omega)
    have hgcW := hO.lt
    have hgaW := hT.lt
    have HX1 := hid hX1
    have HY1 := hid hY1
    obtain ⟨w3, hw3⟩ : ∃ w3, w3 = (W.alloc (.cells #[.int .i64 s, .slice (some ⟨b, off, none⟩) n c0] 31)).alloc (.cells #[.int .i64 X, .int .i64 Y] 86) := ⟨_, rfl⟩
    have HB3 := hid (show Below W.heap.size W w3 by rw [hw3]; exact bfrom (on_alloc _ _) (on_alloc _ _))
    have HG3 := hid (show w3.heap[W.heap.size]? = some (.cells #[.int .i64 s, .slice (some ⟨b, off, none⟩) n c0] 31 (0, 0)) by rw [hw3]; exact (Below.heap_alloc _ _ _ (by simp)).trans (World.alloc_heap_new W _))
    have HE3 := hid (show w3.heap[W.heap.size + 1]? = some (.cells #[.int .i64 X, .int .i64 Y] 86 (0, 0)) by
      rw [hw3]
      have h := World.alloc_heap_new (W.alloc (.cells #[.int .i64 s, .slice (some ⟨b, off, none⟩) n c0] 31)) (.cells #[.int .i64 X, .int .i64 Y] 86)
      rwa [World.size_alloc] at h)
    have HZ3 := hid (show w3.heap.size = W.heap.size + 2 by rw [hw3]; simp)
    have HO3 := hid (hO.on HB3.out)
    have HT3 := hid (hT.on HB3.out)
    have HR3 := hid (hr.on HB3.out)
    have HJ3 := hid (show J (pre ++ nrmU es r c 0) w3 by rw [nrmU_zero, List.append_nil]; exact hJ pre W w3 h0 ((Kept.refl _ W).call HB3.out))
    have hKn : c.length < n := by omega
    have hne16 : ((c.length : Int) == (n : Int)) = false := by simp; omega
    have HIH := hid ih
    have HJ := hid hJ
    have HN := hid hN
    have Hcn := hid hcn
    obtain ⟨i0, hi, hz0, hz1, hz2⟩ := info_parts infoInt
    have Hi := hid hi
    clear ih hJ hY hN hcn hO hT hr h0 hok hX1 hY1 hi
    go_enter Try.func137, Try.ntmps137
    go_wp2
    rw [← hw3]
    clear hw3
    go_loopw [26] (fun v wr => ∃ k : Nat, k ≤ 3 ∧ v = .int .i64 k ∧ Hid (J (pre ++ nrmU es r c k) wr) ∧ Hid (OwnI wr gc n c ∧ OwnC wr ga (takeL es c c.length)) ∧ Hid (KeptH n0 w3 wr)) (fun v _ => 3 - (intOf v).toNat)
    case atStart => exact ⟨0, by omega, rfl, HJ3, hid ⟨HO3.out, HT3.out⟩, hid (KeptH.refl _ _)⟩
    case round =>
      obtain ⟨k, hk, rfl, hJk, hS, hKH⟩ := hrel
      have hsz := hKH.out.1
      by_cases hlt : k < 3
      · have hlt' : (k : Int) < 3 := by omega
        have hgr := (hKH.out.2.2 _ _ _ _ HG3.out (.inl rfl)).trans HG3.out
        have her := (hKH.out.2.2 _ _ _ _ HE3.out (.inr rfl)).trans HE3.out
        have hx1 : wr.cell? ⟨W.heap.size, 0, none⟩ = some (.int .i64 s) := by simp [World.cell?, hgr]
        have hx2 : wr.cell? ⟨W.heap.size, 1, none⟩ = some (.slice (some ⟨b, off, none⟩) n c0) := by simp [World.cell?, hgr]
        have hy1 : wr.cell? ⟨W.heap.size + 1, 0, none⟩ = some (.int .i64 X) := by simp [World.cell?, her]
        have hy2 : wr.cell? ⟨W.heap.size + 1, 1, none⟩ = some (.int .i64 Y) := by simp [World.cell?, her]
        have HGr := hid hgr
        have HEr := hid her
        have HRr := hid (HR3.out.keep (hKH.out.2.1 b hb (by have := HZ3.out; omega)))
        have hzr : W.heap.size + 1 < wr.heap.size := by have := HZ3.out; omega
        have hgal := hS.out.2.lt
        have hgcl := hS.out.1.lt
        obtain ⟨f, hf⟩ : ∃ f : Bool, decide (fitsP es c c.length k) = f := ⟨_, rfl⟩
        have HF := hid hf
        have HFF := hid (free_fits HX1.out HY1.out hX2 hY2 hlt (c := c) (k := c.length))
        obtain ⟨wo, rfl⟩ : ∃ wo : World, wo = wr := ⟨_, rfl⟩
        clear hf hgr her
        cases f
        · go_wp2_with fail
          refine (iFree_any ga X Y k (takeL es c c.length) _ hX2 hY2 hlt hS.out.2).mono ?_
          rw [HFF.out, HF.out]
          rintro e' w4 ⟨rfl, hb4⟩
          have HB4 := hid hb4
          clear hb4
          go_wp2
          go_roundw
          case rel => exact ⟨k + 1, by omega, by go_num, hid (by rw [nrmU_no (of_decide_eq_false HF.out)]; exact HJ.out _ _ _ hJk.out ((Kept.refl _ wo).call HB4.out)), hid ⟨hS.out.1.on HB4.out, hS.out.2.on HB4.out⟩, hid (hKH.out.trans (KeptH.below HB4.out))⟩
          case measure => simp [intOf]; omega
        · have hfit := hid (of_decide_eq_true HF.out)
          have HON := hid (turn_on HX1.out HY1.out hX2 hY2 hlt hfit.out)
          have HOFF := hid (turn_off HX1.out HY1.out hX2 hY2 hXY hlt hfit.out)
          go_wp2_with fail
          refine (iFree_any ga X Y k (takeL es c c.length) _ hX2 hY2 hlt hS.out.2).mono ?_
          rw [HFF.out, HF.out]
          rintro e' w4 ⟨rfl, hb4⟩
          obtain ⟨hq4, _⟩ := bcells hb4
          have hy1 := (hq4 _ _ (by show W.heap.size + 1 < wo.heap.size; omega)).trans hy1
          have hy2 := (hq4 _ _ (by show W.heap.size + 1 < wo.heap.size; omega)).trans hy2
          have HB4 := hid hb4
          have hz4 := hb4.size
          clear hb4 hq4
          go_wp2_with fail
          refine (iTurn_any ga X Y k (takeL es c c.length) _ hX2 hY2 hXY hlt (hS.out.2.on HB4.out)).mono ?_
          rw [HON.out]
          rintro e' w5 ⟨rfl, ho5, hg5⟩
          have hb4w := HB4.out.size
          have HJ5 := hid (HJ.out _ _ w5 hJk.out (((Kept.refl (fun i => i ≠ gc ∧ i ≠ ga) wo).call HB4.out).row hg5 (fun r e h => h.2 (Option.some.inj e).symm)))
          have HO5 := hid ((hS.out.1.on HB4.out).keep (hg5.block gc (by omega) (fun e => hne (Option.some.inj e))))
          have HT5 := hid ho5
          have HK5 := hid ((hKH.out.trans (KeptH.below HB4.out)).trans (KeptH.turn (hS.out.2.on HB4.out) hg5 hga))
          have hgr := (HK5.out.2.2 _ _ _ _ HG3.out (.inl rfl)).trans HG3.out
          have hx1 : w5.cell? ⟨W.heap.size, 0, none⟩ = some (.int .i64 s) := by simp [World.cell?, hgr]
          have hx2 : w5.cell? ⟨W.heap.size, 1, none⟩ = some (.slice (some ⟨b, off, none⟩) n c0) := by simp [World.cell?, hgr]
          have hz5 : W.heap.size + 1 < w5.heap.size := by have := HZ3.out; have := HK5.out.1; omega
          have hz5' : W.heap.size < w5.heap.size := by omega
          have HA5 := hid (srch_next (r := r) (k := k) (s := s) (c0 := c0) (l := l) HIH.out HJ.out hne hgc hb HR3.out (by have := HZ3.out; omega) HG3.out HT5.out HJ5.out HK5.out Hcn.out (by
            obtain ⟨z, hz⟩ := nrmU_le (es := es) (r := r) (c := c) (show k + 1 ≤ 3 by omega)
            have h := HN.out
            rw [nrmF_succ, hz, nrmU_yes hfit.out] at h
            simp only [List.length_append] at h ⊢
            omega))
          clear ho5 hg5 hgr HIH
          go_wp2
          go_region_law (first
            | (refine step_append_srch rfl (.tmp 39) (.tmp 41) 25 rfl i0 Try.underlying25 Hi.out hz1 (w5 := w5) (gc := gc) (n0 := n0) (n := n) (c := c) (k := k) (by first | exact on_alloc _ _ | exact (on_alloc _ _).drew | exact bfrom (Below.refl _ _).drew (on_alloc _ _)) (by rfl) HO5.out hgc hKn (by rfl) (cell_one_new w5 _ _) ?_; intro w6 hg6 hk6; obtain ⟨hx1, hx2, hz6, hih6⟩ := HA5.out w6 hg6 hk6; have HI6 := hid hih6)
            | (go_simp; go_at_call 137; refine (HI6.out _ (by first | exact Below.refl _ _ | exact (Below.refl _ _).drew | (simp only [bdn]; exact Below.refl _ _))).mono ?_; intro e' w7 h7; obtain ⟨go, rfl, h7⟩ := one_ending h7; have H7 := hid h7; clear h7; dsimp only))
          all_goals
            cases go
            · have hx7 : ∃ q, q <+: nrmF es r (c ++ [(k : Int)]) ∧ Jx (pre ++ nrmU es r c k ++ q) w7 := by
                rcases H7.out with ⟨h, _⟩ | ⟨_, h⟩
                · cases h
                · exact h
              obtain ⟨q, hq, hx7⟩ := hx7
              have HX7 := hid (show Jx (pre ++ (nrmU es r c k ++ q)) w7 by rw [← List.append_assoc]; exact hx7)
              have HQ7 := hid (prefix_nrm hlt hfit.out hq)
              clear hx7 hq H7
              go_wp2
              go_ret
              exact .inr ⟨rfl, _, HQ7.out, HX7.out⟩
            · have h7 : J (pre ++ nrmU es r c k ++ nrmF es r (c ++ [(k : Int)])) w7 ∧ OwnI w7 gc n c ∧ OwnC w7 ga (takeL es (c ++ [(k : Int)]) (c.length + 1)) ∧ KeptH n0 w5 w7 := by
                rcases H7.out with ⟨_, h⟩ | ⟨h, _⟩
                · exact h
                · cases h
              have HJ7 := hid (show J (pre ++ nrmU es r c (k + 1)) w7 by rw [nrmU_yes hfit.out, ← List.append_assoc]; exact h7.1)
              have HO7 := hid h7.2.1
              have HT7 := hid h7.2.2.1
              have HK7 := hid (HK5.out.trans h7.2.2.2)
              have her := (HK7.out.2.2 _ _ _ _ HE3.out (.inr rfl)).trans HE3.out
              have hy1 : w7.cell? ⟨W.heap.size + 1, 0, none⟩ = some (.int .i64 X) := by simp [World.cell?, her]
              have hy2 : w7.cell? ⟨W.heap.size + 1, 1, none⟩ = some (.int .i64 Y) := by simp [World.cell?, her]
              have hz7 : W.heap.size + 1 < w7.heap.size := by have := HZ3.out; have := HK7.out.1; omega
              clear h7 H7 her
              go_wp2_with fail
              refine (iTurn_any ga X Y k (takeL es (c ++ [(k : Int)]) (c.length + 1)) _ hX2 hY2 hXY hlt (by first | exact HT7.out | exact OwnC.keep (w' := World.drew _) HT7.out rfl)).mono ?_
              rw [HOFF.out]
              rintro e' w8 ⟨rfl, ho8, hg8⟩
              have HJ8 := hid (HJ.out _ _ w8 HJ7.out (((Kept.refl (fun i => i ≠ gc ∧ i ≠ ga) w7).call (by first | exact Below.refl _ _ | exact (Below.refl _ _).drew)).row hg8 (fun r e h => h.2 (Option.some.inj e).symm)))
              have HO8 := hid (show OwnI w8 gc n c from HO7.out.keep (hg8.block gc (by first | exact HO7.out.lt | exact HO7.out.drew.lt) (fun e => hne (Option.some.inj e))))
              have HK8 := hid (show KeptH n0 w3 w8 from HK7.out.trans (KeptH.turn HT7.out (by first | exact hg8 | exact ⟨hg8.os, hg8.tape, hg8.output, hg8.size, hg8.block⟩) hga))
              have HT8 := hid ho8
              clear ho8 hg8
              go_wp2
              go_roundw
              case rel => exact ⟨k + 1, by omega, by go_num, HJ8, hid ⟨HO8.out, HT8.out⟩, HK8⟩
              case measure => simp [intOf]; omega
      · obtain rfl : k = 3 := by omega
        go_wp2
        go_ret
        exact .inl ⟨rfl, hJk.out, hS.out.1, hS.out.2, (KeptH.below HB3.out).trans hKH.out⟩

end Go.Proofs.Ytogdcoioflcdiaa
