/- The range over matchings, in the program: what restsOfMatchings' function owes. -/
import Derived.Test.YtaafbdpdpndplaaMtA
import Derived.Test.YtaafbdpdpndplaaMetV
import Derived.Test.YtaafbdpdpndplaaIterB
import Derived.Test.YtaafbdpdpndplaaMovesJ
import Derived.Test.YtaafbdpdpndplaaRndH
import Derived.Test.YtaafbdpdpndplaaRowsM
import Derived.Test.YtaafbdpdpndplaaRowN
import Derived.BigQuiet
import Derived.Deep.RegionLaw
import Derived.Test.YtaafbdpdpndplaaStepA

/- The search of matchings in the program: what it leaves alone, its boxes, and slices.Index at truth values. -/
namespace Go.Proofs.Ytaafbdpdpndplaa
open Go.RowKit Go.Shelf

attribute [local go_sem] Oper.semAt_some

def idxV (ms : List Bool) (N : Nat) : Int := if lstF ms N < N then (lstF ms N : Int) else -1

set_option maxRecDepth 100000 in
set_option maxHeartbeats 2000000 in
theorem iIdxV_any (g N c : Nat) (ms : List Bool) (w : World) (hN : N ≤ 20) (ho : OwnV w g ms) :
    Calls Try.prog 49 #[.slice (some ⟨g, 0, none⟩) N c, .bool false] w fun e w' => e = .returned (.int .i64 (idxV ms N)) ∧ w = w' := by
  have HO := hid ho
  have hg := ho.lt
  obtain ⟨r, hR⟩ : ∃ r, idxV ms N = r := ⟨_, rfl⟩
  rw [hR]
  have HR := hid hR
  clear ho hR
  go_enter Try.func49, Try.ntmps49
  go_wp2
  go_loop [8] (fun i => ∃ k : Nat, k ≤ N ∧ i = .int .i64 k ∧ Hid (∀ j, j < k → eL ms j = true)) (fun i => N - (intOf i).toNat)
  case atStart => exact ⟨0, Nat.zero_le _, rfl, hid (fun j hj => by omega)⟩
  case round =>
    obtain ⟨k, hk, rfl, hE⟩ := hrel
    by_cases hlt : k < N
    · have hlt' : (k : Int) < (N : Int) := by omega
      have h1 := HO.out.cell (i := k) (by omega)
      obtain ⟨y, hy⟩ : ∃ y, eL ms k = y := ⟨_, rfl⟩
      rw [hy] at h1
      have HY := hid hy
      clear hy
      cases y
      · have HF := hid (show r = k by rw [← HR.out]; unfold idxV; rw [lstF_is (by omega : k ≤ N) hE.out (fun _ => HY.out), if_pos hlt])
        go_wp2
        go_ret
        rw [HF.out]
        exact ⟨rfl, rfl⟩
      · go_wp2
        go_round
        case rel =>
          refine ⟨k + 1, by omega, by go_num, hid (fun j hj => ?_)⟩
          rcases Nat.lt_or_ge j k with h | h
          · exact hE.out j h
          · obtain rfl : j = k := by omega
            exact HY.out
        case measure => simp [intOf]; omega
    · have hkN : k = N := by omega
      have HF := hid (show r = -1 by rw [← HR.out]; unfold idxV; rw [lstF_is (Nat.le_refl N) (by rw [← hkN]; exact hE.out) (fun h => absurd h (by omega)), if_neg (by omega)])
      have hlt' : ¬ ((k : Int) < (N : Int)) := by omega
      clear hkN
      go_wp2
      go_ret
      rw [HF.out]
      exact ⟨rfl, rfl⟩

/-- Blocks that are no rows of lists: a row of lists has more than one cell where it is written into. -/
def smallB (W : World) (i : Nat) : Prop := ∀ cur fr, W.heap[i]? = some (.cells cur 46 fr) → cur.size = 1
/-- What a round leaves alone where it ends the search. -/
def KeptX (A : Nat) (W W' : World) : Prop := W.heap.size ≤ W'.heap.size ∧ ∀ i, A ≤ i → i < W.heap.size → smallB W i → W'.heap[i]? = W.heap[i]?
/-- What a round leaves alone where the search goes on. -/
def KeptF (n0 A : Nat) (W W' : World) : Prop := Kept (fun i => i < n0) W W' ∧ KeptX A W W'
/-- What a search leaves alone, however it ends. -/
def KeptY (A gc ga : Nat) (W W' : World) : Prop := W.heap.size ≤ W'.heap.size ∧ ∀ i, A ≤ i → i < W.heap.size → i ≠ gc → i ≠ ga → smallB W i → W'.heap[i]? = W.heap[i]?
/-- What a search leaves alone that goes on. -/
def KeptR (n0 A gc ga : Nat) (W W' : World) : Prop := Kept (fun i => i < n0) W W' ∧ KeptY A gc ga W W'
/-- What the moves of the search itself leave alone. -/
def MvS (A gc ga : Nat) (X Y : World) : Prop := Kept (fun i => i < A) X Y ∧ ∀ i cur t fr, A ≤ i → i ≠ gc → i ≠ ga → X.heap[i]? = some (.cells cur t fr) → t ≠ 4 → Y.heap[i]? = X.heap[i]?

section
variable {n0 A gc ga : Nat} {W W' X Y Z : World}
theorem smallB.same {i : Nat} (h : smallB W i) (hk : W'.heap[i]? = W.heap[i]?) : smallB W' i := fun cur fr hc => h cur fr (hk.symm.trans hc)
theorem KeptX.toY (h : KeptX A W W') : KeptY A gc ga W W' := ⟨h.1, fun i h1 h2 _ _ h3 => h.2 i h1 h2 h3⟩
theorem KeptF.toR (h : KeptF n0 A W W') : KeptR n0 A gc ga W W' := ⟨h.1, h.2.toY⟩
theorem KeptX.trans (h : KeptX A X Y) (k : KeptX A Y Z) : KeptX A X Z :=
  ⟨Nat.le_trans h.1 k.1, fun i h1 h2 h3 => (k.2 i h1 (Nat.lt_of_lt_of_le h2 h.1) (h3.same (h.2 i h1 h2 h3))).trans (h.2 i h1 h2 h3)⟩
theorem KeptF.trans (h : KeptF n0 A X Y) (k : KeptF n0 A Y Z) : KeptF n0 A X Z := ⟨h.1.trans k.1, h.2.trans k.2⟩
theorem KeptY.trans (h : KeptY A gc ga X Y) (k : KeptY A gc ga Y Z) : KeptY A gc ga X Z :=
  ⟨Nat.le_trans h.1 k.1, fun i h1 h2 h4 h5 h3 => (k.2 i h1 (Nat.lt_of_lt_of_le h2 h.1) h4 h5 (h3.same (h.2 i h1 h2 h4 h5 h3))).trans (h.2 i h1 h2 h4 h5 h3)⟩
theorem KeptR.trans (h : KeptR n0 A gc ga X Y) (k : KeptR n0 A gc ga Y Z) : KeptR n0 A gc ga X Z := ⟨h.1.trans k.1, h.2.trans k.2⟩
theorem KeptY.below (h : Below W.heap.size W W') : KeptY A gc ga W W' := ⟨h.size, fun i _ h2 _ _ _ => h.block i h2⟩
theorem KeptR.below (h : Below W.heap.size W W') : KeptR n0 A gc ga W W' := ⟨(Kept.refl _ W).call h, KeptY.below h⟩
theorem KeptR.refl (n0 A gc ga : Nat) (W : World) : KeptR n0 A gc ga W W := KeptR.below (Below.refl _ _)
theorem KeptR.grown {g : Nat} (h : W.grownBy W' (some g)) (hg : g = gc ∨ g = ga) (hn : n0 ≤ g) : KeptR n0 A gc ga W W' :=
  ⟨⟨h.os, h.tape, h.output, h.size, fun i h1 h2 => h.block i h2 (fun e => by have := Option.some.inj e; omega)⟩, h.size, fun i _ h2 h3 h4 _ => h.block i h2 (fun e => by have := Option.some.inj e; omega)⟩
theorem KeptR.cell {g : Nat} {v : Value} {a : Addr} (ha : a.block = g) (hn : n0 ≤ g) (hg : W.heap.size ≤ g) (h : KeptR n0 A gc ga W X) : KeptR n0 A gc ga W (X.setCell a v) := by
  subst ha
  exact ⟨h.1.set (by omega) v, by simpa [World.setCell] using h.2.1, fun i h1 h2 h3 h4 h5 => (heap_setCell_other X a i v (by omega)).trans (h.2.2 i h1 h2 h3 h4 h5)⟩
theorem KeptY.cell {g : Nat} {v : Value} {a : Addr} (ha : a.block = g) (hg : W.heap.size ≤ g) (h : KeptY A gc ga W X) : KeptY A gc ga W (X.setCell a v) := by
  subst ha
  exact ⟨by simpa [World.setCell] using h.1, fun i h1 h2 h3 h4 h5 => (heap_setCell_other X a i v (by omega)).trans (h.2 i h1 h2 h3 h4 h5)⟩
theorem MvS.below (h : Below W.heap.size W W') : MvS A gc ga W W' := ⟨(Kept.refl _ W).call h, fun i _ _ _ _ _ _ hc _ => h.block i (Array.getElem?_eq_some_iff.1 hc).1⟩
theorem MvS.grown {g : Nat} (h : W.grownBy W' (some g)) (hg : g = gc ∨ g = ga) (hA : A ≤ g) : MvS A gc ga W W' :=
  ⟨⟨h.os, h.tape, h.output, h.size, fun i h1 h2 => h.block i h2 (fun e => by have := Option.some.inj e; omega)⟩, fun i _ _ _ _ h3 h4 hc _ => h.block i (Array.getElem?_eq_some_iff.1 hc).1 (fun e => by have := Option.some.inj e; omega)⟩
theorem MvS.obj {row : Option Nat} (h : W.grownBy W' row) (hr : ∀ r, row = some r → A ≤ r ∧ ∃ o : Obj, W.heap[r]? = some o ∧ o.isCells = false) : MvS A gc ga W W' :=
  ⟨⟨h.os, h.tape, h.output, h.size, fun i h1 h2 => h.block i h2 (fun e => by have := (hr i e.symm).1; omega)⟩, fun i cur t fr _ _ _ hc _ => h.block i (Array.getElem?_eq_some_iff.1 hc).1 (fun e => by
    obtain ⟨_, o, ho, hcl⟩ := hr i e.symm
    rw [hc] at ho
    cases ho
    cases hcl)⟩
theorem MvS.flag {B : Nat} {u v : Value} (hB : A ≤ B) (h : Boxed W B 4 u) : MvS A gc ga W (W.setCell ⟨B, 0, none⟩ v) :=
  ⟨(Kept.refl _ W).set (by show ¬ B < A; omega) v, fun i cur t fr _ _ _ hc ht => heap_setCell_other W ⟨B, 0, none⟩ i v (fun e => by
    have e' : i = B := e
    subst e'
    rw [show W.heap[i]? = _ from h] at hc
    injection hc with hc
    injection hc with _ hc2
    exact ht hc2.symm)⟩
theorem small_box {B : Nat} {t : TypeId} {u : Value} (h : Boxed W B t u) : smallB W B := fun cur fr hc => by
  rw [show W.heap[B]? = _ from h] at hc
  injection hc with hc
  injection hc with h1
  rw [← h1]
  rfl
end

theorem KeptR.put {n0 A gc ga : Nat} {W X : World} {D : Nat} (o : Obj) (h : KeptR n0 A gc ga W X) (hD : W.heap.size ≤ D) (hn : n0 ≤ D) : KeptR n0 A gc ga W (X.putObj D o) :=
  ⟨⟨h.1.os, h.1.tape, h.1.output, by simpa [World.putObj] using h.1.size, fun i h1 h2 => (World.putObj_heap_other (by omega)).trans (h.1.same i h1 h2)⟩, by simpa [World.putObj] using h.2.1, fun i h1 h2 h3 h4 h5 => (World.putObj_heap_other (by omega)).trans (h.2.2 i h1 h2 h3 h4 h5)⟩
theorem KeptY.put {A gc ga : Nat} {W X : World} {D : Nat} (o : Obj) (h : KeptY A gc ga W X) (hD : W.heap.size ≤ D) : KeptY A gc ga W (X.putObj D o) :=
  ⟨by simpa [World.putObj] using h.1, fun i h1 h2 h3 h4 h5 => (World.putObj_heap_other (by omega)).trans (h.2 i h1 h2 h3 h4 h5)⟩
theorem MvS.put {A gc ga : Nat} {X : World} {D : Nat} {o : Obj} (o' : Obj) (hD : A ≤ D) (h : X.heap[D]? = some o) (ho : o.isCells = false) : MvS A gc ga X (X.putObj D o') :=
  MvS.obj (grownBy_putObj' X D o') (fun r e => by cases e; exact ⟨hD, o, h, ho⟩)

theorem KeptY.from {A gc ga B0 : Nat} {W W' : World} (h : KeptY A gc ga W W') (hA : A ≤ B0) (hgc : gc < B0) (hga : ga < B0) : KeepsFrom B0 W W' :=
  ⟨h.1, fun i o hi ho hc => (h.2 i (by omega) (Array.getElem?_eq_some_iff.1 ho).1 (by omega) (by omega) (fun cur fr hh => by rw [ho] at hh; cases hh; cases hc)).trans ho⟩

/-- The boxes of a call of the search, from block B on. -/
structure FrM (W : World) (B : Nat) (s : Int) (b off n c0 gc k H ga l : Nat) : Prop where
  g : W.heap[B]? = some (.cells #[.int .i64 s, .slice (some ⟨b, off, none⟩) n c0] 30 (0, 0))
  c : Boxed W (B + 1) 46 (.slice (some ⟨gc, 0, none⟩) k H)
  m : Boxed W (B + 1 + 1) 76 (.pointer (some ⟨ga, 0, none⟩))
  y : Boxed W (B + 1 + 1 + 1) 74 (.func (.yield l) #[] #[])
  r : Boxed W (B + 1 + 1 + 1 + 1) 4 (.bool false)
section
variable {W W' : World} {B b off n c0 gc k H ga l A : Nat} {s : Int}
theorem FrM.same (h : FrM W B s b off n c0 gc k H ga l) (hk : ∀ i, B ≤ i → i ≤ B + 4 → W'.heap[i]? = W.heap[i]?) : FrM W' B s b off n c0 gc k H ga l :=
  ⟨(hk _ (by omega) (by omega)).trans h.g, (hk _ (by omega) (by omega)).trans h.c, (hk _ (by omega) (by omega)).trans h.m, (hk _ (by omega) (by omega)).trans h.y, (hk _ (by omega) (by omega)).trans h.r⟩
theorem FrM.small (h : FrM W B s b off n c0 gc k H ga l) {i : Nat} (h1 : B ≤ i) (h2 : i ≤ B + 4) : smallB W i := by
  rcases (by omega : i = B ∨ i = B + 1 ∨ i = B + 1 + 1 ∨ i = B + 1 + 1 + 1 ∨ i = B + 1 + 1 + 1 + 1) with rfl | rfl | rfl | rfl | rfl
  · intro cur fr hc
    rw [h.g] at hc
    injection hc with hc
    injection hc with _ hc2
    exact absurd hc2 (by decide)
  · exact small_box h.c
  · exact small_box h.m
  · exact small_box h.y
  · exact small_box h.r
theorem FrM.lt (h : FrM W B s b off n c0 gc k H ga l) : B + 4 < W.heap.size := h.r.lt
theorem FrM.kept (h : FrM W B s b off n c0 gc k H ga l) (hA : A ≤ B) (hgc : gc < B) (hga : ga < B) (hk : KeptY A gc ga W W') : FrM W' B s b off n c0 gc k H ga l :=
  h.same fun i h1 h2 => hk.2 i (by omega) (by have := h.lt; omega) (by omega) (by omega) (h.small h1 h2)
theorem FrM.on (h : FrM W B s b off n c0 gc k H ga l) (hb : Below W.heap.size W W') : FrM W' B s b off n c0 gc k H ga l := h.same fun i _ h2 => hb.block i (by have := h.lt; omega)
end
theorem frM_new (w : World) (s : Int) (b off n c0 gc k H ga l : Nat) :
    FrM (((((w.alloc (.cells #[.int .i64 s, .slice (some ⟨b, off, none⟩) n c0] 30)).alloc (.cells #[.slice (some ⟨gc, 0, none⟩) k H] 46)).alloc (.cells #[.pointer (some ⟨ga, 0, none⟩)] 76)).alloc (.cells #[.func (.yield l) #[] #[]] 74)).alloc (.cells #[.bool false] 4)) w.heap.size s b off n c0 gc k H ga l := by
  refine ⟨?_, ((((boxedN_at _ _ _ _ (by simp)).alloc _).alloc _).alloc _), (((boxedN_at _ _ _ _ (by simp)).alloc _).alloc _), ((boxedN_at _ _ _ _ (by simp)).alloc _), boxedN_at _ _ _ _ (by simp)⟩
  have h := ((((on_alloc (w.alloc (.cells #[.int .i64 s, .slice (some ⟨b, off, none⟩) n c0] 30)) (.cells #[.slice (some ⟨gc, 0, none⟩) k H] 46)).alloc (by simp) (.cells #[.pointer (some ⟨ga, 0, none⟩)] 76)).alloc (by simp) (.cells #[.func (.yield l) #[] #[]] 74)).alloc (by simp) (.cells #[.bool false] 4)).block w.heap.size (by simp)
  exact h.trans (World.alloc_heap_new w _)

/-- The one result, read out of its cell. -/
theorem results_flag {fn : Func} {p : Tmp} (h : fn.results = #[.cell p 4]) (tmps : Array Value) (w : World) (g : Nat) (x : Bool) (h1 : tmps.getD p undef = .pointer (some ⟨g, 0, none⟩)) (hx : Boxed w g 4 (.bool x)) :
    (results fn tmps).run Try.prog w = .ok (.bool x) w := by
  have e1 : tmps[p]?.getD undef = .pointer (some ⟨g, 0, none⟩) := by simpa using h1
  have ha : (isAgg 4).run Try.prog w = .ok false w := by
    unfold isAgg
    rw [Sem.run_bind, run_underlying Try.underlying4 w]
    rfl
  have c1 := hx.cell
  simp [results, h, e1, asAddr, loadVar, Sem.run_bind, ha, c1, Result.andThen]

end Go.Proofs.Ytaafbdpdpndplaa

/- The search of matchings in the program: goOnMatching. -/
namespace Go.Proofs.Ytaafbdpdpndplaa
open Go.RowKit Go.Shelf

attribute [local go_sem] Oper.semAt_some

set_option maxRecDepth 100000 in
set_option maxHeartbeats 8000000 in
/-- No vertex is left: the list is handed on. -/
theorem goM_leaf (n0 A gc ga l Nn b off n c0 N H C : Nat) (es : List (Int × Int)) (g : IsG N es) (hA0 : n0 ≤ A) (hgc : A ≤ gc) (hga : A ≤ ga) (J Jx : List (List Int) → World → Prop) (Z : List Int → Prop)
    (hJ : ∀ st X Y, J st X → MvS A gc ga X Y → J st Y) (hJx : ∀ st X Y, Jx st X → MvS A gc ga X Y → Jx st Y)
    (hY : ∀ m pre x W, J pre W → OwnI W gc C x → x.length = H → ga < W.heap.size → pre.length < Nn → Z x → YieldAt Fence.wide m Try.prog l #[.slice (some ⟨gc, 0, none⟩) H C] W fun e W' => (e = .returned (.bool true) ∧ J (pre ++ [x]) W' ∧ KeptF n0 A W W') ∨ (e = .returned (.bool false) ∧ Jx (pre ++ [x]) W' ∧ KeptX A W W'))
    (c : List Int) (ms : List Bool) (pre : List (List Int)) (W : World) (hc : c.length = H) (hm : unmF ms N = 0) (hO : OwnI W gc C c) (hT : OwnV W ga ms) (h0 : J pre W) (hN : pre.length < Nn) (hZc : Z c) :
    Calls Try.prog 43 #[.agg #[.int .i64 N, .slice (some ⟨b, off, none⟩) n c0], .slice (some ⟨gc, 0, none⟩) H C, .pointer (some ⟨ga, 0, none⟩), .func (.yield l) #[] #[]] W fun e W' =>
      (e = .returned (.bool true) ∧ J (pre ++ [c]) W' ∧ OwnI W' gc C c ∧ OwnV W' ga ms ∧ KeptR n0 A gc ga W W') ∨ (e = .returned (.bool false) ∧ Jx (pre ++ [c]) W' ∧ KeptY A gc ga W W') := by
  have hN20 : N ≤ 20 := by have := g.1.1.2.1; omega
  have hidx : idxV ms N = -1 := by unfold idxV; rw [unmF_zero hm, if_neg (by omega)]
  have hgcW := hO.lt
  have hgaW := hT.lt
  obtain ⟨w1, hw1⟩ : ∃ w1, w1 = ((((W.alloc (.cells #[.int .i64 N, .slice (some ⟨b, off, none⟩) n c0] 30)).alloc (.cells #[.slice (some ⟨gc, 0, none⟩) H C] 46)).alloc (.cells #[.pointer (some ⟨ga, 0, none⟩)] 76)).alloc (.cells #[.func (.yield l) #[] #[]] 74)).alloc (.cells #[.bool false] 4) := ⟨_, rfl⟩
  have HB1 := hid (show Below W.heap.size W w1 by rw [hw1]; exact bfrom (bfrom (bfrom (bfrom (on_alloc _ _) (on_alloc _ _)) (on_alloc _ _)) (on_alloc _ _)) (on_alloc _ _))
  have HF1 := hid (show FrM w1 W.heap.size N b off n c0 gc H C ga l by rw [hw1]; exact frM_new W N b off n c0 gc H C ga l)
  have HZ1 := hid (show w1.heap.size = W.heap.size + 5 by rw [hw1]; simp)
  have HIdx := hid hidx
  have HO := hid hO
  have HT := hid hT
  have HJ1 := hid (hJ pre W w1 h0 (MvS.below HB1.out))
  have HJ := hid hJ
  have HJx := hid hJx
  have HY := hid hY
  clear hidx hO hT h0 hJ hJx hY
  refine (callsIn_wide (n := 2)).1 ?_
  refine callsIn_of_wp Try.func43 rfl trivial ?_ rfl
  simp only [Try.ntmps43, List.size_toArray, List.length_cons, List.length_nil, Nat.reduceAdd, Nat.reduceSub, Array.replicate_succ, Array.replicate_zero, List.push_toArray, List.append_toArray, List.nil_append, List.cons_append]
  gi_wp2
  rw [← hw1]
  clear hw1
  have hg0 : w1.cell? ⟨W.heap.size, 0, none⟩ = some (.int .i64 N) := by simp [World.cell?, HF1.out.g]
  have hcm := HF1.out.m.cell
  have hcy := HF1.out.y.cell
  have hcc := HF1.out.c.cell
  have hcr := HF1.out.r.cell
  have hfr := HF1.out.r.frozen
  have hzr := HF1.out.r.lt
  have hT1 := HT.out.on HB1.out
  have HT1 := hid hT1
  clear hT1
  have hN20' : (N : Int) ≤ 20 := by omega
  have hN0' : ¬ ((20 : Int) < (N : Int)) := by omega
  have hN0'' : (0 : Int) ≤ (N : Int) := by omega
  refine region_wide ?_
  have HIx := hid (fun k => show Calls Try.prog 49 #[.slice (some ⟨ga, 0, none⟩) N 20, .bool false] (w1.drewN k) (fun e w'' => e = .returned (.int .i64 (-1)) ∧ ∃ m, w'' = w1.drewN m) from Calls.quiet_of_same ((iIdxV_any ga N 20 ms _ hN20 (OwnV.keep (w' := World.drewN _ _) HT1.out rfl)).mono fun _ _ ⟨a, b⟩ => ⟨by rw [a, HIdx.out], b.symm⟩))
  go_quiet ((go_at_call 49; exact HIx.out _))
  obtain ⟨fn, tmps, assign, body, hy, hR⟩ := HY.out 1 pre c (w1.drewN nq) (HJ.out _ _ _ HJ1.out (MvS.below (bdn.mpr (Below.refl _ _)))) (OwnI.keep (w' := World.drewN _ _) (HO.out.on HB1.out) rfl) hc (by show ga < w1.heap.size; have := HZ1.out; omega) hN hZc
  have hR' := hid hR
  clear hR HY
  gi_wp2
  refine hR'.out.mono ?_
  have hsm : ∀ i, W.heap.size ≤ i → i ≤ W.heap.size + 4 → smallB (w1.drewN nq) i := fun i h1 h2 => (HF1.out.small h1 h2).same rfl
  have HSm := hid hsm
  clear hsm
  rintro e W3 (⟨rfl, hJ3, hk3⟩ | ⟨rfl, hJx3, hk3⟩)
  · have hF3 : FrM W3 W.heap.size N b off n c0 gc H C ga l := HF1.out.same fun i h1 h2 => hk3.2.2 i (by omega) (by show i < w1.heap.size; have := HZ1.out; omega) (HSm.out i h1 h2)
    have hr3 := hF3.r
    have hcr3 := hr3.cell
    have hfr3 := hr3.frozen
    have hzr3 := hr3.lt
    have HJ3 := hid (HJ.out _ _ (W3.setCell ⟨W.heap.size + 1 + 1 + 1 + 1, 0, none⟩ (.bool true)) hJ3 (MvS.flag (by omega) hr3))
    have HR3 := hid (Boxed.set (.bool true) hr3)
    have hgc2 : smallB (w1.drewN nq) gc := fun cur fr hc => by
      obtain ⟨cur2, hc2, _⟩ := HO.out.on HB1.out
      rw [show (w1.drewN nq).heap[gc]? = w1.heap[gc]? from rfl, hc2] at hc
      injection hc with hc
      injection hc with _ hc3
      exact absurd hc3 (by decide)
    have hga2 : smallB (w1.drewN nq) ga := fun cur fr hc => by
      obtain ⟨_, cur2, hc2, _⟩ := HT1.out
      rw [show (w1.drewN nq).heap[ga]? = w1.heap[ga]? from rfl, hc2] at hc
      injection hc with hc
      injection hc with _ hc3
      exact absurd hc3 (by decide)
    have HO3 := hid (show OwnI W3 gc C c from (HO.out.on HB1.out).keep (hk3.2.2 gc hgc (by show gc < w1.heap.size; have := HZ1.out; omega) hgc2))
    have HT3 := hid (show OwnV W3 ga ms from HT1.out.keep (hk3.2.2 ga hga (by show ga < w1.heap.size; have := HZ1.out; omega) hga2))
    have HK3 := hid (show KeptR n0 A gc ga W W3 from (KeptR.below (by exact bdn.mpr HB1.out)).trans hk3.toR)
    clear hJ3 hk3 hF3 hr3 hgc2 hga2
    gi_wp2
    refine bodyPost_ret (results_flag rfl _ _ (W.heap.size + 1 + 1 + 1 + 1) true rfl HR3.out) rfl ?_
    exact .inl ⟨rfl, HJ3.out, HO3.out.far (by show gc ≠ W.heap.size + 1 + 1 + 1 + 1; omega) _, HT3.out.far (by show ga ≠ W.heap.size + 1 + 1 + 1 + 1; omega) _, HK3.out.cell (g := W.heap.size + 1 + 1 + 1 + 1) rfl (by omega) (by omega)⟩
  · have hF3 : FrM W3 W.heap.size N b off n c0 gc H C ga l := HF1.out.same fun i h1 h2 => hk3.2 i (by omega) (by show i < w1.heap.size; have := HZ1.out; omega) (HSm.out i h1 h2)
    have hr3 := hF3.r
    have hcr3 := hr3.cell
    have hfr3 := hr3.frozen
    have hzr3 := hr3.lt
    have HJ3 := hid (HJx.out _ _ (W3.setCell ⟨W.heap.size + 1 + 1 + 1 + 1, 0, none⟩ (.bool false)) hJx3 (MvS.flag (by omega) hr3))
    have HR3 := hid (Boxed.set (.bool false) hr3)
    have HK3 := hid (show KeptY A gc ga W W3 from (KeptY.below (by exact bdn.mpr HB1.out)).trans hk3.toY)
    clear hJx3 hk3 hF3 hr3
    gi_wp2
    refine bodyPost_ret (results_flag rfl _ _ (W.heap.size + 1 + 1 + 1 + 1) false rfl HR3.out) rfl ?_
    exact .inr ⟨rfl, HJ3.out, HK3.out.cell (g := W.heap.size + 1 + 1 + 1 + 1) rfl (by omega)⟩

theorem arU_pre (es : List (Int × Int)) (v : Int) : ∀ k m, k ≤ m → (arU es v k).map Prod.fst <+: (arU es v m).map Prod.fst := by
  intro k m h
  obtain ⟨j, rfl⟩ : ∃ j, m = k + j := ⟨m - k, by omega⟩
  unfold arU
  rw [List.map_map, List.map_map, List.range_add, List.filter_append, List.map_append]
  exact ⟨_, rfl⟩

/-- What lies there while the edges at the vertex are gone through. -/
structure StM (n0 A gc ga b off n c0 l C V B Bv : Nat) (s : Int) (es : List (Int × Int)) (F : List Int → List Bool → List (List Int)) (c : List Int) (ms : List Bool) (pre : List (List Int)) (J : List (List Int) → World → Prop) (w1 : World) (L : List (ArS es V)) (W : World) : Prop where
  j : J (pre ++ mtQ es F V c ms (L.map fun x => x.1.1)) W
  o : OwnI W gc C c
  t : OwnV W ga ms
  f : FrM W B s b off n c0 gc c.length C ga l
  v : Boxed W Bv 2 (.int .i64 (V : Int))
  k : KeptR n0 A gc ga w1 W
theorem stM_own {n0 A gc ga b off n c0 l C V B Bv B0 : Nat} {s : Int} {es : List (Int × Int)} {F : List Int → List Bool → List (List Int)} {c : List Int} {ms : List Bool} {pre : List (List Int)} {J : List (List Int) → World → Prop} {w1 : World}
    (hJ : ∀ st X Y, J st X → MvS A gc ga X Y → J st Y) (h1 : w1.heap.size ≤ B0) (hA : A ≤ B0) (hgc : gc < B0) (hga : ga < B0) (hB : B + 4 < B0) (hv : Bv < B0) : OwnFrom B0 (StM n0 A gc ga b off n c0 l C V B Bv s es F c ms pre J w1) := by
  intro L W W' row h hg hr
  have hne : ∀ i, i < B0 → i < W.heap.size → W'.heap[i]? = W.heap[i]? := fun i h1 h2 => hg.block i h2 (fun e => by have := (hr i e.symm).1; omega)
  refine ⟨hJ _ _ _ h.j (MvS.obj hg (fun r e => ⟨by have := (hr r e).1; omega, (hr r e).2⟩)), h.o.keep (hne _ hgc h.o.lt), h.t.keep (hne _ hga h.t.lt), h.f.same (fun i _ h2 => hne i (by omega) (by have := h.f.lt; omega)), (hne _ hv h.v.lt).trans h.v, ⟨⟨hg.os.trans h.k.1.os, hg.tape.trans h.k.1.tape, hg.output.trans h.k.1.output, Nat.le_trans h.k.1.size hg.size, fun i h2 h3 => (hne i (by omega) (Nat.lt_of_lt_of_le h3 h.k.1.size)).trans (h.k.1.same i h2 h3)⟩, Nat.le_trans h.k.2.1 hg.size, fun i h2 h3 h4 h5 h6 => (hne i (by omega) (Nat.lt_of_lt_of_le h3 h.k.1.size)).trans (h.k.2.2 i h2 h3 h4 h5 h6)⟩⟩
/-- What lies there when a round has ended the search. -/
structure StX (A gc ga V B : Nat) (es : List (Int × Int)) (F : List Int → List Bool → List (List Int)) (c : List Int) (ms : List Bool) (pre : List (List Int)) (Jx : List (List Int) → World → Prop) (w1 : World) (c' : Code) (L : List (ArS es V)) (W : World) : Prop where
  cc : c' = .ret
  j : ∃ q, q <+: mtQ es F V c ms (L.map fun x => x.1.1) ∧ Jx (pre ++ q) W
  r : Boxed W (B + 1 + 1 + 1 + 1) 4 (.bool false)
  k : KeptY A gc ga w1 W
theorem stX_own {A gc ga V B B0 : Nat} {es : List (Int × Int)} {F : List Int → List Bool → List (List Int)} {c : List Int} {ms : List Bool} {pre : List (List Int)} {Jx : List (List Int) → World → Prop} {w1 : World} {c' : Code}
    (hJ : ∀ st X Y, Jx st X → MvS A gc ga X Y → Jx st Y) (h1 : w1.heap.size ≤ B0) (hA : A ≤ B0) (hB : B + 4 < B0) : OwnFrom B0 (StX A gc ga V B es F c ms pre Jx w1 c') := by
  intro L W W' row h hg hr
  have hne : ∀ i, i < B0 → i < W.heap.size → W'.heap[i]? = W.heap[i]? := fun i h1 h2 => hg.block i h2 (fun e => by have := (hr i e.symm).1; omega)
  obtain ⟨q, hq, hj⟩ := h.j
  exact ⟨h.cc, ⟨q, hq, hJ _ _ _ hj (MvS.obj hg (fun r e => ⟨by have := (hr r e).1; omega, (hr r e).2⟩))⟩, (hne _ (by omega) h.r.lt).trans h.r, ⟨Nat.le_trans h.k.1 hg.size, fun i h2 h3 h4 h5 h6 => (hne i (by omega) (Nat.lt_of_lt_of_le h3 h.k.1)).trans (h.k.2 i h2 h3 h4 h5 h6)⟩⟩

set_option maxRecDepth 100000 in
set_option maxHeartbeats 16000000 in
/-- One edge more. -/
theorem goM_step (n0 A gc ga l Nn b off n c0 N H C r : Nat) (es : List (Int × Int)) (g : IsG N es) (hn : es.length = n) (hb : b < n0) (hA0 : n0 ≤ A) (hgc : A ≤ gc) (hga : A ≤ ga) (hne : gc ≠ ga) (J Jx : List (List Int) → World → Prop) (Z : List Int → Prop)
    (hJ : ∀ st X Y, J st X → MvS A gc ga X Y → J st Y) (hJx : ∀ st X Y, Jx st X → MvS A gc ga X Y → Jx st Y)
    (ih : ∀ (c : List Int) (ms : List Bool) (pre : List (List Int)) (W : World), c.length + r = H → unmF ms N = 2 * r → ReadsE W b off es → OwnI W gc C c → OwnV W ga ms → J pre W → pre.length + 3 ^ r ≤ Nn → (∀ x, x ∈ mtF N es r c ms → Z x) →
      Calls Try.prog 43 #[.agg #[.int .i64 N, .slice (some ⟨b, off, none⟩) n c0], .slice (some ⟨gc, 0, none⟩) c.length C, .pointer (some ⟨ga, 0, none⟩), .func (.yield l) #[] #[]] W fun e W' =>
        (e = .returned (.bool true) ∧ J (pre ++ mtF N es r c ms) W' ∧ OwnI W' gc C c ∧ OwnV W' ga ms ∧ KeptR n0 A gc ga W W') ∨ (e = .returned (.bool false) ∧ (∃ q, q <+: mtF N es r c ms ∧ Jx (pre ++ q) W') ∧ KeptY A gc ga W W'))
    (c : List Int) (ms : List Bool) (pre : List (List Int)) (W : World) (hc : c.length + (r + 1) = H) (hHC : H ≤ C) (hm : unmF ms N = 2 * (r + 1)) (hr : ReadsE W b off es) (hO : OwnI W gc C c) (hT : OwnV W ga ms) (h0 : J pre W) (hN : pre.length + 3 ^ (r + 1) ≤ Nn) (hZs : ∀ x, x ∈ mtF N es (r + 1) c ms → Z x) :
    Calls Try.prog 43 #[.agg #[.int .i64 N, .slice (some ⟨b, off, none⟩) n c0], .slice (some ⟨gc, 0, none⟩) c.length C, .pointer (some ⟨ga, 0, none⟩), .func (.yield l) #[] #[]] W fun e W' =>
      (e = .returned (.bool true) ∧ J (pre ++ mtF N es (r + 1) c ms) W' ∧ OwnI W' gc C c ∧ OwnV W' ga ms ∧ KeptR n0 A gc ga W W') ∨ (e = .returned (.bool false) ∧ (∃ q, q <+: mtF N es (r + 1) c ms ∧ Jx (pre ++ q) W') ∧ KeptY A gc ga W W') := by
  have hN20 : N ≤ 20 := by have := g.1.1.2.1; omega
  have hn30 : n ≤ 30 := by have := isG_len g; omega
  obtain ⟨V, hV⟩ : ∃ V, lstF ms N = V := ⟨_, rfl⟩
  have hVN : V < N := by rw [← hV]; exact unmF_pos (by omega)
  have hidx : idxV ms N = V := by unfold idxV; rw [hV, if_pos hVN]
  have hVf : eL ms V = false := by rw [← hV]; exact lstF_free ms N (by rw [hV]; exact hVN)
  have hgcW := hO.lt
  have hgaW := hT.lt
  obtain ⟨w1, hw1⟩ : ∃ w1, w1 = ((((W.alloc (.cells #[.int .i64 N, .slice (some ⟨b, off, none⟩) n c0] 30)).alloc (.cells #[.slice (some ⟨gc, 0, none⟩) c.length C] 46)).alloc (.cells #[.pointer (some ⟨ga, 0, none⟩)] 76)).alloc (.cells #[.func (.yield l) #[] #[]] 74)).alloc (.cells #[.bool false] 4) := ⟨_, rfl⟩
  have HB1 := hid (show Below W.heap.size W w1 by rw [hw1]; exact bfrom (bfrom (bfrom (bfrom (on_alloc _ _) (on_alloc _ _)) (on_alloc _ _)) (on_alloc _ _)) (on_alloc _ _))
  have HF1 := hid (show FrM w1 W.heap.size N b off n c0 gc c.length C ga l by rw [hw1]; exact frM_new W N b off n c0 gc c.length C ga l)
  have HZ1 := hid (show w1.heap.size = W.heap.size + 5 by rw [hw1]; simp)
  have HIdx := hid hidx
  have HV := hid hV
  have HVf := hid hVf
  have HO := hid hO
  have HT := hid hT
  have HJ1 := hid (hJ pre W w1 h0 (MvS.below HB1.out))
  have HJ := hid hJ
  have HJx := hid hJx
  have HIH := hid ih
  have HZs := hid (fun (f U : Nat) (h1 : f < es.length) (h2 : onE es V f = true) (h3 : othE es V f = U) (h4 : eL ms U = false) (x : List Int) (hx : x ∈ mtF N es r (c ++ [(f : Int)]) (markV ms V U)) => hZs x (by
    rw [mtF_succ, hV]
    exact List.mem_flatMap.2 ⟨f, onL_mem.2 ⟨h1, h2⟩, by rw [mtG_yes h3 h4]; exact hx⟩))
  have HM := hid hm
  have HC := hid hc
  have HN := hid hN
  have Hn := hid hn
  have G := hid g
  have HR := hid hr
  obtain ⟨i0, hi, _, hy1, _⟩ := info_parts infoInt
  have Hi := hid hi
  clear hidx hV hVf hO hT h0 hJ hJx ih hm hc hN hn g hr hi hZs
  refine (callsIn_wide (n := 6)).1 ?_
  refine callsIn_of_wp_marks Try.func43 rfl trivial ?_ rfl
  simp only [Try.ntmps43, List.size_toArray, List.length_cons, List.length_nil, Nat.reduceAdd, Nat.reduceSub, Array.replicate_succ, Array.replicate_zero, List.push_toArray, List.append_toArray, List.nil_append, List.cons_append]
  gi_wp2
  rw [← hw1]
  clear hw1
  have hg0 : w1.cell? ⟨W.heap.size, 0, none⟩ = some (.int .i64 N) := by simp [World.cell?, HF1.out.g]
  have hg1 : w1.cell? ⟨W.heap.size, 1, none⟩ = some (.slice (some ⟨b, off, none⟩) n c0) := by simp [World.cell?, HF1.out.g]
  have hcm := HF1.out.m.cell
  have hzr := HF1.out.r.lt
  have HT1 := hid (HT.out.on HB1.out)
  have hN20' : (N : Int) ≤ 20 := by omega
  have hN0'' : (0 : Int) ≤ (N : Int) := by omega
  refine region_wide ?_
  have HIx := hid (fun k => show Calls Try.prog 49 #[.slice (some ⟨ga, 0, none⟩) N 20, .bool false] (w1.drewN k) (fun e w'' => e = .returned (.int .i64 (V : Int)) ∧ ∃ m, w'' = w1.drewN m) from Calls.quiet_of_same ((iIdxV_any ga N 20 ms _ hN20 (OwnV.keep (w' := World.drewN _ _) HT1.out rfl)).mono fun _ _ ⟨a, b⟩ => ⟨by rw [a, HIdx.out], b.symm⟩))
  go_quiet ((go_at_call 49; exact HIx.out _))
  gi_wp2_with (refine ⟨trivial, ?_⟩; gi_at_call 50; refine (callsIn_wide.2 (iAround_any _ _ _ _ _ _)).mono ?_; rintro e w' ⟨rfl, rfl⟩)
  obtain ⟨W0, hW0⟩ : ∃ W0 : World, W0 = ((w1.drewN nq).alloc (.cells #[.int .i64 N, .slice (some ⟨b, off, none⟩) n c0] 30)).alloc (.cells #[.int .i64 V] 2) := ⟨_, rfl⟩
  have HB0 := hid (show Below w1.heap.size w1 W0 by rw [hW0]; exact ((bdn.mpr (Below.refl _ _)).alloc (Nat.le_refl _) _).alloc (by simp) _)
  have hsz : W0.heap.size = w1.heap.size + 2 := by rw [hW0]; simp
  have hbG : W0.cell? ⟨w1.heap.size, 1, none⟩ = some (.slice (some ⟨b, off, none⟩) n c0) := by
    rw [hW0]
    exact ((Box.new (w1.drewN nq) N (some ⟨b, off, none⟩) n c0 30).on (on_alloc _ _)).2
  have hbV : Boxed W0 (w1.heap.size + 1) 2 (.int .i64 V) := by rw [hW0]; exact boxedN_at _ _ _ _ (by simp)
  rw [← hW0]
  clear hW0
  have HZ0 := hid hsz
  have hz1 := HZ1.out
  have HJ0 := hid (HJ.out _ _ W0 HJ1.out (MvS.below HB0.out))
  have HBV := hid hbV
  refine wpIn_rangeFunc_ownG (n := 6) rfl (by omega) (gf := 56) (lb := #[.pointer (some ⟨w1.heap.size, 0, none⟩), .pointer (some ⟨w1.heap.size + 1, 0, none⟩)]) rfl trivial (enters_of Try.func56 (by kernel_rfl) rfl)
    (aroundS_stops 5 (by omega) w1.heap.size (w1.heap.size + 1) n0 b off n c0 V es Hn.out hn30 hb W0 (by omega) hbG hbV.cell (by omega) (by omega) ((HR.out.on HB1.out).on HB0.out)) kpB_t (kpB_b (by omega) (by omega)) (Below.refl _ _) (fun _ => rfl)
    (StM n0 A gc ga b off n c0 l C V W.heap.size (w1.heap.size + 1) N es (mtF N es r) c ms pre J w1)
    (StX A gc ga V W.heap.size es (mtF N es r) c ms pre Jx W)
    (stM_own HJ.out (by omega) (by omega) (by omega) (by omega) (by omega) (by omega))
    (fun c' => stX_own HJx.out (by omega) (by omega) (by omega))
    ⟨by show J (pre ++ []) W0; rw [List.append_nil]; exact HJ0.out, (HO.out.on HB1.out).on HB0.out, HT1.out.on HB0.out, HF1.out.on HB0.out, hbV, KeptR.below HB0.out⟩
    ?a1 ?assign ?body ?done ?stop
  case assign =>
    intro l x W K hK
    gi_wp2
    exact hK
  case body =>
    rintro l' pre' ⟨⟨f, u⟩, hfl, hfo, hfu⟩ W' hS hlt
    have HS := hid hS
    have hout := oth_in (endsIn_of G.out) hfl hfo
    have HFO := hid (show onE es V f = true from hfo)
    have HFL := hid (show f < es.length from hfl)
    have hu1 : u = othE es V f := hfu
    rw [show othE es V (f, u).1 = othE es V f from rfl, ← hu1] at hout
    obtain ⟨U, rfl⟩ : ∃ U : Nat, u = U := ⟨_, (Int.toNat_of_nonneg hout.1).symm⟩
    have hU : othE es V f = U := hu1.symm
    clear hu1
    have hUN : U < N := by omega
    have hU20 : (U : Int) < 20 := by omega
    have hcm := hS.f.m.cell
    have hcU := hS.t.cell (i := U) (by omega)
    have hgaW' := hS.t.lt
    have hzr' := hS.f.r.lt
    have hg1' : W'.cell? ⟨W.heap.size, 1, none⟩ = some (.slice (some ⟨b, off, none⟩) n c0) := by simp [World.cell?, hS.f.g]
    have hg0' : W'.cell? ⟨W.heap.size, 0, none⟩ = some (.int .i64 N) := by simp [World.cell?, hS.f.g]
    have HUo := hid hU
    clear hS hout hU
    cases hmet : eL ms U
    · have HMet := hid hmet
      rw [hmet] at hcU
      clear hmet
      have hRd := HR.out.keep ((HS.out.k.1.same b hb (by show b < w1.heap.size; omega)).trans (HB1.out.block b (by omega)))
      have hok := G.out.1.2 f HFL.out
      have hs20 := G.out.1.1.2.1
      have hc1 := (hRd f HFL.out).1
      have hc2 := (hRd f HFL.out).2
      have hbW : b < W'.heap.size := reads_lt hRd (by omega)
      obtain ⟨X, hX1⟩ : ∃ X : Nat, eA es f = X := ⟨_, (Int.toNat_of_nonneg hok.1).symm⟩
      obtain ⟨Y, hY1⟩ : ∃ Y : Nat, eB es f = Y := ⟨_, (Int.toNat_of_nonneg hok.2.2.1).symm⟩
      have hX2 : X < 20 := by have := hok.2.1; omega
      have hY2 : Y < 20 := by have := hok.2.2.2.1; omega
      have hXY : ¬ X = Y := fun e => hok.2.2.2.2 (by rw [hX1, hY1, e])
      have hends : (X = V ∧ Y = U) ∨ (X = U ∧ Y = V) := by
        have h1 := HFO.out
        have h2 := HUo.out
        unfold onE at h1
        unfold othE at h2
        simp only [Bool.or_eq_true, beq_iff_eq] at h1
        rw [hX1, hY1] at h1 h2
        omega
      have hVU : V ≠ U := by omega
      have hms : ms.length = 20 := HS.out.t.1
      have HON := hid (markV_ends (ms := ms) hends hVU)
      have HOFF := hid (markV_off (ms := ms) hends hVU (by omega) (by omega) HVf.out HMet.out)
      have hfn : (f : Int) < (n : Int) := by have := Hn.out; have := HFL.out; omega
      rw [hX1] at hc1
      rw [hY1] at hc2
      have HRd := hid hRd
      clear hok hX1 hY1 hRd
      gi_wp2
      refine region_tail_roundH 6 (by kernel_rfl) (by kernel_rfl) (by kernel_rfl) ?_
      simp only [List.take_succ_cons, List.take_zero, List.drop_succ_cons, List.drop_zero]
      repeat still_step
      refine wpStill_nil ?_
      gi_wp2_with fail
      refine ⟨trivial, ?_⟩
      refine (callsIn_wide.2 (iAdd_any ga X Y ms _ hX2 hY2 hXY (OwnV.keep (w' := World.drew _) HS.out.t rfl))).mono ?_
      rw [HON.out]
      rintro e w5 ⟨rfl, ho5, hg5⟩
      have hg5' : W'.grownBy w5 (some ga) := ⟨hg5.os, hg5.tape, hg5.output, hg5.size, hg5.block⟩
      have HT5 := hid ho5
      have HK5 := hid (show KeptR n0 A gc ga W' w5 from KeptR.grown hg5' (.inr rfl) (by omega))
      have HJ5 := hid (HJ.out _ _ w5 HS.out.j (MvS.grown hg5' (.inr rfl) hga))
      have HO5 := hid (HS.out.o.keep (hg5'.block gc HS.out.o.lt (fun e => hne (Option.some.inj e))))
      have HF5 := hid (HS.out.f.kept (by omega) (by omega) (by omega) HK5.out.2)
      have hz5 := hg5'.size
      clear ho5 hg5 hg5'
      gi_wp2
      have HFD : FrM w5.drew W.heap.size N b off n c0 gc c.length C ga l := HF5.out.on (Below.refl _ _).drew
      refine region_held_round (S := fun w' => FrM w' W.heap.size N b off n c0 gc c.length C ga l) (by kernel_rfl) (by kernel_rfl) ?_
      refine wpAnyH_take (i := 2) (v := .int .i64 (f : Int)) rfl (by kernel_rfl) (by kernel_rfl) (by kernel_rfl) (fun _ _ _ h => h) (Or.inl ⟨by rfl, fun w hSw => ?_⟩) (by assumption) ?_
      · go_simp
      simp only [Act.put, List.getElem_toArray, List.getElem_cons_zero, List.getElem_cons_succ, List.setIfInBounds_toArray, List.set_cons_zero, List.set_cons_succ]
      refine wpAnyH_take (i := 0) (v := .agg #[.int .i64 N, .slice (some ⟨b, off, none⟩) n c0]) rfl (by kernel_rfl) (by kernel_rfl) (by kernel_rfl) (fun _ _ _ h => h) (Or.inl ⟨by rfl, fun w hSw => ?_⟩) (by assumption) ?_
      · have h0 : w.cell? ⟨W.heap.size, 0, none⟩ = some (.int .i64 N) := by simp [World.cell?, hSw.g]
        have h1 : w.cell? ⟨W.heap.size, 1, none⟩ = some (.slice (some ⟨b, off, none⟩) n c0) := by simp [World.cell?, hSw.g]
        go_simp
      simp only [Act.put, List.getElem_toArray, List.getElem_cons_zero, List.setIfInBounds_toArray, List.set_cons_zero, List.set_cons_succ]
      refine wpAnyH_take (i := 1) (v := .slice (some ⟨gc, 0, none⟩) c.length C) rfl (by kernel_rfl) (by kernel_rfl) (by kernel_rfl) (fun _ _ _ h => h) (Or.inl ⟨by rfl, fun w hSw => ?_⟩) (by assumption) ?_
      · have h0 := hSw.c.cell
        go_simp
      simp only [Act.put, List.getElem_toArray, List.getElem_cons_zero, List.getElem_cons_succ, List.setIfInBounds_toArray, List.set_cons_zero, List.set_cons_succ]
      refine wpAnyH_take (i := 5) (v := .pointer (some ⟨ga, 0, none⟩)) rfl (by kernel_rfl) (by kernel_rfl) (by kernel_rfl) (fun _ _ _ h => h) (Or.inl ⟨by rfl, fun w hSw => ?_⟩) (by assumption) ?_
      · have h0 := hSw.m.cell
        go_simp
      simp only [Act.put, List.getElem_toArray, List.getElem_cons_zero, List.getElem_cons_succ, List.setIfInBounds_toArray, List.set_cons_zero, List.set_cons_succ]
      refine wpAnyH_take (i := 6) (v := .func (.yield l) #[] #[]) rfl (by kernel_rfl) (by kernel_rfl) (by kernel_rfl) (fun _ _ _ h => h) (Or.inl ⟨by rfl, fun w hSw => ?_⟩) (by assumption) ?_
      · have h0 := hSw.y.cell
        go_simp
      simp only [Act.put, List.getElem_toArray, List.getElem_cons_zero, List.getElem_cons_succ, List.setIfInBounds_toArray, List.set_cons_zero, List.set_cons_succ]
      refine wpAnyH_ready (rs := [3]) (by kernel_rfl) (by simp) ?_
      refine AllReadyH.cons rfl (fun K hK => ?_) AllReadyH.nil
      go_simp
      refine hK.out _ _ ?_ (fun hHeld => ?_)
      · exact HFD.on (on_alloc _ _)
      clear hK K HFD
      refine wpAnyH_ready (rs := [4]) (by kernel_rfl) (by simp) ?_
      refine AllReadyH.cons rfl (fun K hK => ?_) AllReadyH.nil
      have hOA := (HO5.out.drewN (n := 1)).on (on_alloc (w5.drewN 1) (.cells #[.int .i64 f] 2))
      refine step_append_fits rfl (.tmp 41) (.tmp 43) 46 rfl n0 2 i0 1 Try.underlying46 Hi.out hy1 gc c.length C (intVals c) rfl (hOA.row rfl (by omega)) ⟨w5.heap.size, 0, none⟩ 1 1 [.int .i64 f] rfl rfl (cell_one_new _ _ _) (by simp [Value.oneCell']) (by have := HC.out; omega) ?_
      intro w7 hown7 hgr7
      have hgr7' : (w5.alloc (.cells #[.int .i64 f] 2)).grownBy w7 (some gc) := ⟨hgr7.os, hgr7.tape, hgr7.output, hgr7.size, hgr7.block⟩
      have HO7 := hid (OwnI.of_row (base := n0) (xs := c ++ [(f : Int)]) (by rw [intVals_append]; exact hown7) (by simp)).1
      have HK7 := hid (show KeptR n0 A gc ga w5 w7 from (KeptR.below (on_alloc _ _)).trans (KeptR.grown hgr7' (.inl rfl) (by omega)))
      have HJ7 := hid (HJ.out _ _ w7 (HJ.out _ _ _ HJ5.out (MvS.below (on_alloc _ _))) (MvS.grown hgr7' (.inl rfl) hgc))
      have HT7 := hid ((HT5.out.on (on_alloc _ _)).keep (hgr7'.block ga (by have := HT5.out.lt; simp; omega) (fun e => hne (Option.some.inj e).symm)))
      have HF7 := hid (HF5.out.kept (by omega) (by omega) (by omega) HK7.out.2)
      have hsz7 := hgr7'.size
      simp at hsz7
      refine hK.out _ _ ?_ (fun _ => ?_)
      · exact HF7.out
      clear hK K hOA hown7 hgr7 hgr7'
      refine wpAnyH_ready (rs := [7]) (by kernel_rfl) (by simp) ?_
      refine AllReadyH.cons rfl (fun K hK => ?_) AllReadyH.nil
      have h := HIH.out (c ++ [(f : Int)]) (markV ms V U) (pre ++ mtQ es (mtF N es r) V c ms (pre'.map fun x => x.1.1)) w7 (by have := HC.out; simp; omega) (by have h1 := markV_unm (N := N) (by omega) hVN hUN hVU HVf.out HMet.out; have := HM.out; omega) (HRd.out.keep ((HK7.out.1.same b hb (by omega)).trans (HK5.out.1.same b hb hbW))) HO7.out HT7.out HJ7.out (by
        have h1 := mtQ_le (es := es) (v := V) (c := c) (ms := ms) (mtF_le G.out r) (pre'.map fun x => x.1.1)
        rw [List.length_map] at h1
        have h2 : (arF es (V : Int)).length ≤ 3 := by
          have h3 := congrArg List.length (arF_onL es (V : Int))
          rw [List.length_map] at h3
          rw [h3]
          exact onL_le3 G.out (by omega)
        have h4 : pre'.length * 3 ^ r ≤ 2 * 3 ^ r := Nat.mul_le_mul_right _ (by omega)
        have h5 := HN.out
        rw [Nat.pow_succ] at h5
        rw [List.length_append]
        omega) (HZs.out f U HFL.out HFO.out HUo.out HMet.out)
      rw [show (c ++ [(f : Int)]).length = c.length + 1 by simp] at h
      have HC7 := hid h
      clear h
      go_simp
      refine HC7.out.mono ?_
      rintro e' w8 (⟨rfl, hJ8, hO8, hT8, hk8⟩ | ⟨rfl, ⟨q, hq, hj8⟩, hk8⟩)
      · have HF8 := hid (HF7.out.kept (by omega) (by omega) (by omega) hk8.2)
        have HK8 := hid ((HK5.out.trans HK7.out).trans hk8)
        have HJ8 := hid hJ8
        have HO8 := hid hO8.front
        have HT8 := hid hT8
        have hz8 := hk8.2.1
        clear hJ8 hO8 hT8 hk8 HC7
        refine hK.out _ _ ?_ (fun _ => ?_)
        · exact HF8.out
        clear hK K
        refine wpAnyH_ready (rs := [8]) (by kernel_rfl) (by simp) ?_
        refine AllReadyH.cons rfl (fun K hK => ?_) AllReadyH.nil
        go_simp
        refine hK.out _ _ ?_ (fun _ => ?_)
        · exact HF8.out
        clear hK K
        refine wpAnyH_done (by kernel_rfl) ?_ _
        simp only [onlyN_normal]
        have hcm8 := HF8.out.m.cell
        have hzr8 := HF8.out.r.lt
        have hg18 : w8.cell? ⟨W.heap.size, 1, none⟩ = some (.slice (some ⟨b, off, none⟩) n c0) := by simp [World.cell?, HF8.out.g]
        have hk8e : ∀ a, w8.cell? ⟨b, a, none⟩ = W'.cell? ⟨b, a, none⟩ := fun a => World.cell?_of_block (w := W') (a := ⟨b, a, none⟩) (HK8.out.1.same b hb hbW)
        have hc1 := (hk8e _).trans hc1
        have hc2 := (hk8e _).trans hc2
        have hb8 : b < w8.heap.size := by omega
        clear hk8e
        gi_wp2
        refine region_tail_roundH 6 (by kernel_rfl) (by kernel_rfl) (by kernel_rfl) ?_
        simp only [List.take_succ_cons, List.take_zero, List.drop_succ_cons, List.drop_zero]
        repeat still_step
        refine wpStill_nil ?_
        gi_wp2_with fail
        refine ⟨trivial, ?_⟩
        refine (callsIn_wide.2 (iRemove_any ga X Y (markV ms V U) _ hX2 hY2 hXY (OwnV.keep (w' := World.drew _) HT8.out rfl))).mono ?_
        rw [HOFF.out]
        rintro e w9 ⟨rfl, ho9, hg9⟩
        have hg9' : w8.grownBy w9 (some ga) := ⟨hg9.os, hg9.tape, hg9.output, hg9.size, hg9.block⟩
        have HK9 := hid (HK8.out.trans (KeptR.grown (n0 := n0) (A := A) (gc := gc) (ga := ga) hg9' (.inr rfl) (by omega)))
        have HJ9 := hid (HJ.out _ _ w9 HJ8.out (MvS.grown hg9' (.inr rfl) hga))
        have HO9 := hid (HO8.out.keep (hg9'.block gc HO8.out.lt (fun e => hne (Option.some.inj e))))
        have HT9 := hid ho9
        have HF9 := hid (HS.out.f.kept (by omega) (by omega) (by omega) HK9.out.2)
        clear ho9 hg9 hg9'
        gi_wp2
        refine ⟨HK9.out.2.from (by omega) (by omega) (by omega), ⟨Kept.below HK9.out.1 (fun i h => h) (by omega), HK9.out.2.2 _ (by omega) HS.out.v.lt (by omega) (by omega) (small_box HS.out.v)⟩, ⟨?_, HO9.out, HT9.out, HF9.out, (HK9.out.2.2 _ (by omega) HS.out.v.lt (by omega) (by omega) (small_box HS.out.v)).trans HS.out.v, HS.out.k.trans HK9.out⟩⟩
        rw [List.map_append, List.map_cons, List.map_nil, mtQ_snoc, mtG_yes HUo.out HMet.out, ← List.append_assoc]
        exact HJ9.out
      · have HF8 := hid (HF7.out.kept (by omega) (by omega) (by omega) hk8)
        have HK8 := hid ((HK5.out.trans HK7.out).2.trans hk8)
        have HJ8 := hid hj8
        have HQ := hid hq
        have hz8 := hk8.1
        clear hj8 hq hk8 HC7
        refine hK.out _ _ ?_ (fun _ => ?_)
        · exact HF8.out
        clear hK K
        refine wpAnyH_ready (rs := [8]) (by kernel_rfl) (by simp) ?_
        refine AllReadyH.cons rfl (fun K hK => ?_) AllReadyH.nil
        go_simp
        refine hK.out _ _ ?_ (fun _ => ?_)
        · exact HF8.out
        clear hK K
        refine wpAnyH_done (by kernel_rfl) ?_ _
        simp only [onlyN_normal]
        have hcr8 := HF8.out.r.cell
        have hfr8 := HF8.out.r.frozen
        have hzr8 := HF8.out.r.lt
        gi_wp2
        refine ⟨(HK8.out.from (by omega) (by omega) (by omega)).trans ((KeepsOthers.setCell _ _ _).from _), ⟨rfl, ⟨_, ?_, HJx.out _ _ _ (by rw [List.append_assoc] at HJ8; exact HJ8.out) (MvS.flag (by omega) HF8.out.r)⟩, Boxed.set _ HF8.out.r, (((KeptR.below HB1.out).trans HS.out.k).2.trans HK8.out).cell (g := W.heap.size + 1 + 1 + 1 + 1) rfl (by omega)⟩⟩
        rw [List.map_append, List.map_cons, List.map_nil, mtQ_snoc, mtG_yes HUo.out HMet.out]
        exact List.prefix_append_right_inj _ |>.2 HQ.out
    · have HMet := hid hmet
      rw [hmet] at hcU
      clear hmet
      gi_wp2
      refine ⟨⟨Nat.le_refl _, fun k o _ hk _ => hk⟩, ⟨Below.refl _ _, rfl⟩, ⟨?_, HS.out.o, HS.out.t, HS.out.f, HS.out.v, HS.out.k⟩⟩
      rw [List.map_append, List.map_cons, List.map_nil, mtQ_snoc, mtG_no HUo.out HMet.out, List.append_nil]
      exact HS.out.j
  case done =>
    rintro D ys W2 hD hys hS hK
    have hr3 := hS.f.r
    have hcr3 := hr3.cell
    have hfr3 := hr3.frozen
    have hzr3 := hr3.lt
    have HAll := hid (show mtQ es (mtF N es r) V c ms (ys.map fun x => x.1.1) = mtF N es (r + 1) c ms by
      have h := congrArg (List.map Prod.fst) hys
      rw [List.map_map, arF_onL] at h
      rw [mtF_succ, HV.out]
      unfold mtQ
      rw [← h]
      rfl)
    have HS := hid hS
    have HR3 := hid (Boxed.set (.bool true) hr3)
    have hK2 : (W2.setCell ⟨W.heap.size + 1 + 1 + 1 + 1, 0, none⟩ (.bool true)).heap[D]? = some (.deferred (some [])) := (heap_setCell_other _ _ D _ (by show D ≠ W.heap.size + 1 + 1 + 1 + 1; omega)).trans hK
    have HK2 := hid hK2
    have HMv := hid (MvS.flag (A := A) (gc := gc) (ga := ga) (v := .bool true) (by omega) hr3)
    clear hS hys hr3 hK
    gi_wp2
    refine ⟨by simp, .inl ⟨_, _, rfl, run_takeDeferred HK2.out, ?_⟩⟩
    refine ⟨_, results_flag rfl _ _ (W.heap.size + 1 + 1 + 1 + 1) true rfl (HR3.out.kept (grownBy_putObj' _ D (.deferred none)) (fun e => by have := Option.some.inj e; omega)), ?_⟩
    refine .inl ⟨rfl, ?_, ?_, ?_, ?_⟩
    · rw [← HAll.out]
      exact HJ.out _ _ _ (HJ.out _ _ _ HS.out.j HMv.out) (MvS.put _ (by omega) HK2.out rfl)
    · exact (HS.out.o.far (by show gc ≠ W.heap.size + 1 + 1 + 1 + 1; omega) _).keep (World.putObj_heap_other (by omega))
    · exact (HS.out.t.far (by show ga ≠ W.heap.size + 1 + 1 + 1 + 1; omega) _).keep (World.putObj_heap_other (by omega))
    · exact ((((KeptR.below HB1.out).trans HS.out.k).cell (g := W.heap.size + 1 + 1 + 1 + 1) rfl (by omega) (by omega)).put _ (by omega) (by omega))
  case stop =>
    rintro D c' pre' W2 hD hpre hX hK
    obtain rfl := hX.cc
    obtain ⟨k, hk, hpk⟩ := hpre
    obtain ⟨q, hq, hjq⟩ := hX.j
    have HQ := hid (show q <+: mtF N es (r + 1) c ms from hq.trans (by
      have h := arU_pre es V k es.length (by rw [Hn.out]; exact hk)
      rw [← hpk, List.map_map] at h
      rw [mtF_succ, HV.out]
      have h2 := mtQ_pre (es := es) (F := mtF N es r) (v := V) (c := c) (ms := ms) h
      have h3 := arF_onL es V
      unfold arF at h3
      rw [h3] at h2
      exact h2))
    have HX := hid hX
    have HJq := hid (HJx.out _ _ _ hjq (MvS.put (.deferred none) (by omega) hK rfl))
    have HK := hid hK
    clear hX hq hjq hpk hK
    gi_wp2
    refine ⟨by simp, .inl ⟨_, _, rfl, run_takeDeferred HK.out, ?_⟩⟩
    refine ⟨_, results_flag rfl _ _ (W.heap.size + 1 + 1 + 1 + 1) false rfl (HX.out.r.kept (grownBy_putObj' _ D (.deferred none)) (fun e => by have := Option.some.inj e; omega)), ?_⟩
    exact .inr ⟨rfl, ⟨q, HQ.out, HJq.out⟩, HX.out.k.put _ (by omega)⟩

/-- The contract of the search. -/
theorem goM_any (n0 A gc ga l Nn b off n c0 N H C : Nat) (es : List (Int × Int)) (g : IsG N es) (hn : es.length = n) (hb : b < n0) (hA0 : n0 ≤ A) (hgc : A ≤ gc) (hga : A ≤ ga) (hne : gc ≠ ga) (hHC : H ≤ C) (J Jx : List (List Int) → World → Prop) (Z : List Int → Prop)
    (hJ : ∀ st X Y, J st X → MvS A gc ga X Y → J st Y) (hJx : ∀ st X Y, Jx st X → MvS A gc ga X Y → Jx st Y)
    (hY : ∀ m pre x W, J pre W → OwnI W gc C x → x.length = H → ga < W.heap.size → pre.length < Nn → Z x → YieldAt Fence.wide m Try.prog l #[.slice (some ⟨gc, 0, none⟩) H C] W fun e W' => (e = .returned (.bool true) ∧ J (pre ++ [x]) W' ∧ KeptF n0 A W W') ∨ (e = .returned (.bool false) ∧ Jx (pre ++ [x]) W' ∧ KeptX A W W')) :
    ∀ (r : Nat) (c : List Int) (ms : List Bool) (pre : List (List Int)) (W : World), c.length + r = H → unmF ms N = 2 * r → ReadsE W b off es → OwnI W gc C c → OwnV W ga ms → J pre W → pre.length + 3 ^ r ≤ Nn → (∀ x, x ∈ mtF N es r c ms → Z x) →
      Calls Try.prog 43 #[.agg #[.int .i64 N, .slice (some ⟨b, off, none⟩) n c0], .slice (some ⟨gc, 0, none⟩) c.length C, .pointer (some ⟨ga, 0, none⟩), .func (.yield l) #[] #[]] W fun e W' =>
        (e = .returned (.bool true) ∧ J (pre ++ mtF N es r c ms) W' ∧ OwnI W' gc C c ∧ OwnV W' ga ms ∧ KeptR n0 A gc ga W W') ∨ (e = .returned (.bool false) ∧ (∃ q, q <+: mtF N es r c ms ∧ Jx (pre ++ q) W') ∧ KeptY A gc ga W W')
  | 0, c, ms, pre, W, hc, hm, _, hO, hT, h0, hN, hZ => by
    have hcH : c.length = H := by omega
    rw [hcH]
    refine (goM_leaf n0 A gc ga l Nn b off n c0 N H C es g hA0 hgc hga J Jx Z hJ hJx hY c ms pre W hcH (by omega) hO hT h0 (by rw [Nat.pow_zero] at hN; omega) (hZ c (by rw [mtF_zero]; exact List.mem_singleton.2 rfl))).mono ?_
    rintro e W' (h | ⟨h1, h2, h3⟩)
    · exact .inl h
    · exact .inr ⟨h1, ⟨[c], List.prefix_refl _, h2⟩, h3⟩
  | r + 1, c, ms, pre, W, hc, hm, hr, hO, hT, h0, hN, hZ =>
    goM_step n0 A gc ga l Nn b off n c0 N H C r es g hn hb hA0 hgc hga hne J Jx Z hJ hJx (fun c ms pre W h1 h2 h3 h4 h5 h6 h7 h8 => goM_any n0 A gc ga l Nn b off n c0 N H C es g hn hb hA0 hgc hga hne hHC J Jx Z hJ hJx hY r c ms pre W h1 h2 h3 h4 h5 h6 h7 h8) c ms pre W hc hHC hm hr hO hT h0 hN hZ

end Go.Proofs.Ytaafbdpdpndplaa

namespace Go.Proofs.Ytaafbdpdpndplaa
open Go.RowKit Go.Shelf

attribute [local go_sem] Oper.semAt_some

/-- The marks as the elements of an array. -/
abbrev metA (ms : List Bool) : Array Value := #[.bool (eL ms 0), .bool (eL ms 1), .bool (eL ms 2), .bool (eL ms 3), .bool (eL ms 4), .bool (eL ms 5), .bool (eL ms 6), .bool (eL ms 7), .bool (eL ms 8), .bool (eL ms 9), .bool (eL ms 10), .bool (eL ms 11), .bool (eL ms 12), .bool (eL ms 13), .bool (eL ms 14), .bool (eL ms 15), .bool (eL ms 16), .bool (eL ms 17), .bool (eL ms 18), .bool (eL ms 19)]

set_option maxRecDepth 100000 in
set_option maxHeartbeats 1000000 in
/-- The maker of the range: the graph and the marks are boxed. -/
theorem iRests_func (s : Int) (p : Option Addr) (n c : Nat) (ms : List Bool) (w : World) :
    Calls Try.prog 36 #[.agg #[.int .i64 s, .slice p n c], .agg (metA ms)] w fun e w' => e = .returned (.func (.func 42) #[] #[.pointer (some ⟨w.heap.size + 1, 0, none⟩), .pointer (some ⟨w.heap.size, 0, none⟩)]) ∧ w' = (w.alloc (.cells #[.int .i64 s, .slice p n c] 30)).alloc (.cells (metA ms) 70) := by
  go_enter Try.func36, Try.ntmps36
  go_wp2
  go_ret
  exact ⟨rfl, rfl⟩

/-- No vertex is met. -/
def metZ : Array Value := metA (List.replicate 20 false)

set_option maxRecDepth 100000 in
set_option maxHeartbeats 1000000 in
theorem iMatchings_func (s : Int) (p : Option Addr) (n c : Nat) (w : World) :
    Calls Try.prog 26 #[.agg #[.int .i64 s, .slice p n c]] w fun e w' => e = .returned (.func (.func 42) #[] #[.pointer (some ⟨w.heap.size + 2, 0, none⟩), .pointer (some ⟨w.heap.size + 1, 0, none⟩)]) ∧ w' = ((w.alloc (.cells #[.int .i64 s, .slice p n c] 30)).alloc (.cells #[.int .i64 s, .slice p n c] 30)).alloc (.cells metZ 70) := by
  go_enter Try.func26, Try.ntmps26
  go_wp2
  go_ret
  exact ⟨rfl, rfl⟩

theorem metA_at {ms : List Bool} {i : Nat} (hi : i < 20) : (metA ms)[i]? = some (.bool (eL ms i)) := by
  rcases (by omega : i = 0 ∨ i = 1 ∨ i = 2 ∨ i = 3 ∨ i = 4 ∨ i = 5 ∨ i = 6 ∨ i = 7 ∨ i = 8 ∨ i = 9 ∨ i = 10 ∨ i = 11 ∨ i = 12 ∨ i = 13 ∨ i = 14 ∨ i = 15 ∨ i = 16 ∨ i = 17 ∨ i = 18 ∨ i = 19) with h | h | h | h | h | h | h | h | h | h | h | h | h | h | h | h | h | h | h | h <;> subst h <;> rfl
theorem own_metA (w : World) (g : Nat) (ms : List Bool) (hl : ms.length = 20) (hg : g = w.heap.size) : OwnV (w.alloc (.cells (metA ms) 70)) g ms := by
  subst hg
  exact ⟨hl, _, heap_alloc_new w _, rfl, fun i hi => metA_at hi⟩

/-- Some truth values over others, from a place on. -/
def overB (xs : List Bool) (o : Nat) : List Bool → List Bool
  | [] => xs
  | y :: ys => overB (xs.set o y) (o + 1) ys
theorem overB_own {g : Nat} : ∀ (ys : List Bool) (xs : List Bool) (o : Nat) (w : World), o + ys.length ≤ 20 → OwnV w g xs → OwnV (w.setCells g o (ys.map Value.bool)) g (overB xs o ys)
  | [], _, _, _, _, h => h
  | y :: ys, xs, o, w, hl, h => by
    rw [List.length_cons] at hl
    exact overB_own ys (xs.set o y) (o + 1) (w.setCell ⟨g, o, none⟩ (.bool y)) (by omega) (h.set (by omega) y)
theorem overB_at : ∀ (ys xs : List Bool) (o i : Nat), o + ys.length ≤ xs.length → eL (overB xs o ys) i = if o ≤ i ∧ i < o + ys.length then eL ys (i - o) else eL xs i
  | [], xs, o, i, _ => by
    rw [if_neg (by simp)]
    rfl
  | y :: ys, xs, o, i, hl => by
    rw [List.length_cons] at hl ⊢
    unfold overB
    rw [overB_at ys _ _ _ (by rw [List.length_set]; omega), eL_set (by omega)]
    by_cases h1 : i = o
    · subst h1
      rw [if_neg (by omega), if_pos rfl, if_pos (by omega), Nat.sub_self]
      rfl
    · by_cases h2 : o + 1 ≤ i ∧ i < o + 1 + ys.length
      · rw [if_pos h2, if_pos (by omega), show i - o = (i - (o + 1)) + 1 by omega]
        rfl
      · rw [if_neg h2, if_neg h1, if_neg (by omega)]
theorem overB_len : ∀ (ys xs : List Bool) (o : Nat), (overB xs o ys).length = xs.length
  | [], _, _ => rfl
  | y :: ys, xs, o => by
    unfold overB
    rw [overB_len ys, List.length_set]
theorem overB_all {xs ys : List Bool} (hx : xs.length = 20) (hy : ys.length = 20) : overB xs 0 ys = ys := by
  apply List.ext_getElem (by rw [overB_len, hx, hy])
  intro i h1 h2
  have h := overB_at ys xs 0 i (by omega)
  rw [if_pos (by omega), Nat.sub_zero] at h
  rwa [eL_lt h1, eL_lt h2] at h
theorem metA_list {ms : List Bool} (hl : ms.length = 20) : (metA ms).toList = ms.map Value.bool := by
  apply List.ext_getElem? ; intro i
  by_cases hi : i < 20
  · rw [Array.getElem?_toList, metA_at hi, List.getElem?_map, List.getElem?_eq_getElem (by omega), eL_lt (by omega)]
    rfl
  · rw [List.getElem?_eq_none (by show 20 ≤ i; omega), List.getElem?_eq_none (by rw [List.length_map]; omega)]
theorem below_setCells {g : Nat} : ∀ (vs : List Value) (o : Nat) (w w' : World), Below g w w' → Below g w (w'.setCells g o vs)
  | [], _, _, _, h => h
  | v :: vs, o, w, _, h => below_setCells vs (o + 1) w _ (h.setCell (p := ⟨g, o, none⟩) (Nat.le_refl _) v)
theorem size_setCells {g : Nat} : ∀ (vs : List Value) (o : Nat) (w : World), (w.setCells g o vs).heap.size = w.heap.size
  | [], _, _ => rfl
  | v :: vs, o, w => (size_setCells vs (o + 1) (w.setCell ⟨g, o, none⟩ v)).trans (by simp [World.setCell])

theorem mt_ending {e : Ending} {L : List (List Int)} {J Jx : List (List Int) → World → Prop} {A B : Prop} {w : World} (h : (e = .returned (.bool true) ∧ J ([] ++ L) w ∧ A) ∨ (e = .returned (.bool false) ∧ (∃ q, q <+: L ∧ Jx ([] ++ q) w) ∧ B)) : ∃ go : Bool, e = .returned (.bool go) ∧ ((go = true ∧ J L w) ∨ (go = false ∧ ∃ q, q <+: L ∧ Jx q w)) := by
  rcases h with ⟨rfl, h, _⟩ | ⟨rfl, h, _⟩
  · exact ⟨true, rfl, .inl ⟨rfl, h⟩⟩
  · exact ⟨false, rfl, .inr ⟨rfl, h⟩⟩

set_option maxRecDepth 100000 in
set_option maxHeartbeats 8000000 in
theorem mt_movesZ (Z : List Int → Prop) (d n0 Ab Bg Bm b off n c0 N H r : Nat) (es : List (Int × Int)) (ms : List Bool) (w0 : World) (hn0 : n0 ≤ w0.heap.size) (hA : w0.heap.size ≤ Ab)
    (hG : w0.heap[Bg]? = some (.cells #[.int .i64 N, .slice (some ⟨b, off, none⟩) n c0] 30 (0, 0))) (hM : w0.heap[Bm]? = some (.cells (metA ms) 70 (0, 0))) (g : IsG N es) (hn : es.length = n) (hb : b < n0) (hr : ReadsE w0 b off es)
    (hl : ms.length = 20) (hu : unmF ms N = 2 * r) (hH : N = 2 * H) (hrH : r ≤ H) (hZ : ∀ x, x ∈ mtF N es r [] ms → Z x) :
    SeqMovesK Fence.wide (d + 1) Try.prog 42 #[.pointer (some ⟨Bm, 0, none⟩), .pointer (some ⟨Bg, 0, none⟩)] (fun (_ : List Int) => #[.slice (some ⟨Ab + 1, 0, none⟩) r H]) Ab (fun x W => (OwnI W (Ab + 1) H x ∧ x.length = r ∧ Ab + 1 < W.heap.size) ∧ Z x) (KeptF n0 Ab) (KeptX Ab) (MvS Ab (Ab + 1) Ab)
      (fun ys => ys = mtF N es r [] ms) (fun pre => pre <+: mtF N es r [] ms) (3 ^ r) w0 := by
  intro l J Jx W hW hB hJ hJx hY h0
  subst hW
  have hN20 : N ≤ 20 := by have := g.1.1.2.1; omega
  have hN2 : 2 ≤ N := by have := g.1.1.1; omega
  have hGW := (hB.block Bg (Array.getElem?_eq_some_iff.1 hG).1).trans hG
  have hMW := (hB.block Bm (Array.getElem?_eq_some_iff.1 hM).1).trans hM
  have hBg : Bg < W.heap.size := (Array.getElem?_eq_some_iff.1 hGW).1
  have hBm : Bm < W.heap.size := (Array.getElem?_eq_some_iff.1 hMW).1
  have hg1 : W.cell? ⟨Bg, 0, none⟩ = some (.int .i64 N) := by simp [World.cell?, hGW]
  have hg2 : W.cell? ⟨Bg, 1, none⟩ = some (.slice (some ⟨b, off, none⟩) n c0) := by simp [World.cell?, hGW]
  have HMc := hid (fun i (hi : i < 20) => show W.cell? ⟨Bm, i, none⟩ = some (.bool (eL ms i)) from (cell_of_row W Bm i _ _ _ hMW).trans (metA_at hi))
  have hsz := hB.size
  have HGO := hid (goM_any n0 W.heap.size (W.heap.size + 1) W.heap.size l (3 ^ r) b off n c0 N r H es g hn hb (by omega) (by omega) (Nat.le_refl _) (by omega) hrH J Jx Z hJ hJx (fun m pre x W1 h1 h2 h3 h5 h4 h6 => by
    obtain ⟨fn, tmps, assign, body, hy, hR⟩ := hY pre x W1 h1 ⟨⟨h2, h3, h2.lt⟩, h6⟩ h4
    exact ⟨fn, tmps, assign, body, hy, ⟨hR.1, fun c cs _ => hR.2 c cs (fun d h => by cases h)⟩⟩))
  have HJ := hid hJ
  have HZ := hid hZ
  have HR := hid (hr.on hB)
  have Hl := hid hl
  have Hu := hid hu
  obtain ⟨i0, hi, hz0, hz1, hz2⟩ := info_parts infoInt
  have hmk0 : ∀ w', (Instr.makeSlice 46 (.int .i64 0) (.int .i64 H)).run Try.prog w' = .ok (.slice (some ⟨w'.heap.size, 0, none⟩) 0 H) (w'.alloc (.cells (madeCells (Value.int .i64 0).cells (H * 1)) 2)) := fun w' => by
    have h := run_makeSlice (P := Try.prog) w' 46 2 i0 (.int .i64 0) Try.underlying46 hi hz0 .i64 .i64 0 H (by omega) (by omega) (by rw [hz1]; omega) (by rw [hz2]; omega) (by omega)
    rw [hz1] at h
    simpa using h
  obtain ⟨ZC, hZC⟩ : ∃ ZC, ZC = madeCells (Value.int .i64 0).cells (H * 1) := ⟨_, rfl⟩
  have hmk : ∀ w', (Instr.makeSlice 46 (.int .i64 0) (.int .i64 H)).run Try.prog w' = .ok (.slice (some ⟨w'.heap.size, 0, none⟩) 0 H) (w'.alloc (.cells ZC 2)) := by rw [hZC]; exact hmk0
  have HZs := hid (show ZC.size = H by rw [hZC, size_madeCells, Nat.mul_one])
  obtain ⟨MA, hMA⟩ : ∃ MA, metA ms = MA := ⟨_, rfl⟩
  have hMAl : MA.toList = ms.map Value.bool := by rw [← hMA]; exact metA_list hl
  have hMAs : MA.size = 20 := by rw [← hMA]; rfl
  have hMAo : MA.all (·.oneCell') = true := by rw [← hMA]; simp [Value.oneCell']
  have HLd := hid (show W.rangeAt Bm 0 MA.toList from fun j v hj => by
    rw [← hMA, Array.getElem?_toList] at hj
    rw [Nat.zero_add]
    exact (cell_of_row W Bm j _ _ _ hMW).trans hj)
  have HSz := hid (show (Try.prog.info? 70).map (·.size) = some MA.toList.length by rw [Array.length_toList, hMAs]; kernel_rfl)
  have HSy := hid (show (Try.prog.info? 70).map (·.size) = some MA.size by rw [hMAs]; kernel_rfl)
  have HTh := hid (show (W.alloc (.cells #[.bool false, .bool false, .bool false, .bool false, .bool false, .bool false, .bool false, .bool false, .bool false, .bool false, .bool false, .bool false, .bool false, .bool false, .bool false, .bool false, .bool false, .bool false, .bool false, .bool false] 70)).there W.heap.size 0 MA.size from fun j hj => by
    rw [hMAs] at hj
    have h := own_marks W W.heap.size rfl
    rw [Nat.zero_add]
    exact ⟨by show (World.cell? (W.alloc (.cells (Array.replicate 20 (Value.bool false)) 70)) _).isSome = true; rw [h.cell hj]; rfl, h.free j⟩)
  have HAl := hid hMAo
  obtain ⟨w3, hw3⟩ : ∃ w3, (W.alloc (.cells #[.bool false, .bool false, .bool false, .bool false, .bool false, .bool false, .bool false, .bool false, .bool false, .bool false, .bool false, .bool false, .bool false, .bool false, .bool false, .bool false, .bool false, .bool false, .bool false, .bool false] 70)).setCells W.heap.size 0 MA.toList = w3 := ⟨_, rfl⟩
  have HW3 := hid hw3
  have HO3 := hid (show OwnV w3 W.heap.size ms by
    rw [← hw3, hMAl]
    have h := overB_own (g := W.heap.size) ms (List.replicate 20 false) 0 _ (by omega) (own_marks W W.heap.size rfl)
    rwa [overB_all (by simp) hl] at h)
  have HB3 := hid (show Below W.heap.size W w3 by rw [← hw3]; exact below_setCells _ _ _ _ (on_alloc _ _))
  have HZ3 := hid (show w3.heap.size = W.heap.size + 1 by rw [← hw3, size_setCells]; simp)
  clear hw3 hMA hMAl hMAs hMAo
  clear hmk0 hZC hi hn hr g hJ hJx hY hG hM hGW hMW hl hu hZ
  refine callsIn_wide.2 ?_
  go_enter Try.func42, Try.ntmps42
  go_wp2_with (first
    | ((with_reducible refine wpList_load_mid (op := ⟨some 5, _, _, _, _, _⟩) rfl _ (.tmp 1) rfl Bm 0 rfl MA.toList _ HLd.out Try.underlying70 (by kernel_rfl) HSz.out ?_); rw [Array.toArray_toList])
    | (with_reducible refine wpList_store_mid (op := ⟨none, _, _, _, _, _⟩) rfl _ (.tmp 4) (.tmp 5) rfl W.heap.size 0 MA rfl rfl HTh.out HSy.out HAl.out ?_; rw [HW3.out]))
  simp only [Act.put]
  have hx1 := (HB3.out.cell (p := ⟨Bg, 0, none⟩) hBg).trans hg1
  have hx2 := (HB3.out.cell (p := ⟨Bg, 1, none⟩) hBg).trans hg2
  have hzB : Bg < w3.heap.size := by have := HZ3.out; omega
  have hmx : 0 < maxLen ∧ H ≤ maxLen := by unfold maxLen; omega
  have HMx := hid hmx
  have hq2 : IntKind.i64.wrap ((N : Int) / 2) = (H : Int) := by rw [show (N : Int) / 2 = (H : Int) by omega]; exact IntWalk.i64_in _ (by omega)
  clear hmx
  have HH := hid hH
  clear hH
  rw [← HZ3.out] at HGO
  have HC := hid (fun (w5 : World) (hB5 : Below w3.heap.size w3 w5) (hO5 : OwnI w5 w3.heap.size H []) => by
    have h := HGO.out r [] ms [] w5 (by simp) Hu.out ((HR.out.on HB3.out).on hB5) hO5 (HO3.out.on hB5) (HJ.out _ _ _ (HJ.out _ _ _ h0 (MvS.below HB3.out)) (MvS.below hB5)) (by simp) HZ.out
    exact h)
  have hONil : ∀ w5 : World, OwnI (w5.alloc (.cells ZC 2)) w5.heap.size H [] := fun w5 => ⟨ZC, heap_alloc_new w5 _, HZs.out, by simp, HMx.out.2, fun i hi => by simp at hi⟩
  have HNil := hid hONil
  clear hONil hg1 hg2
  go_region_with (first
    | (go_at_call 43; refine (HC.out _ (by first | exact on_alloc _ _ | exact (on_alloc _ _).drew | exact (Below.refl _ _).drew.alloc (Nat.le_refl _) _) (by first | exact HNil.out _ | exact OwnI.keep (w' := World.drew _) (HNil.out _) rfl)).mono ?_; intro e' w7 h7; obtain ⟨go, he, h8⟩ := mt_ending (L := mtF N es r [] ms) (J := J) (Jx := Jx) h7; have H7 := hid h8; clear h7 h8; subst he; dsimp only))
  all_goals
    go_wp2
    go_end0
    rcases H7.out with ⟨_, h⟩ | ⟨_, q, hq, h⟩
    · exact ⟨⟨_, rfl⟩, .inl ⟨_, rfl, h⟩⟩
    · exact ⟨⟨_, rfl⟩, .inr ⟨q, hq, h⟩⟩

theorem mt_moves (d n0 Ab Bg Bm b off n c0 N H r : Nat) (es : List (Int × Int)) (ms : List Bool) (w0 : World) (hn0 : n0 ≤ w0.heap.size) (hA : w0.heap.size ≤ Ab)
    (hG : w0.heap[Bg]? = some (.cells #[.int .i64 N, .slice (some ⟨b, off, none⟩) n c0] 30 (0, 0))) (hM : w0.heap[Bm]? = some (.cells (metA ms) 70 (0, 0))) (g : IsG N es) (hn : es.length = n) (hb : b < n0) (hr : ReadsE w0 b off es)
    (hl : ms.length = 20) (hu : unmF ms N = 2 * r) (hH : N = 2 * H) (hrH : r ≤ H) :
    SeqMovesK Fence.wide (d + 1) Try.prog 42 #[.pointer (some ⟨Bm, 0, none⟩), .pointer (some ⟨Bg, 0, none⟩)] (fun (_ : List Int) => #[.slice (some ⟨Ab + 1, 0, none⟩) r H]) Ab (fun x W => OwnI W (Ab + 1) H x ∧ x.length = r ∧ Ab + 1 < W.heap.size) (KeptF n0 Ab) (KeptX Ab) (MvS Ab (Ab + 1) Ab)
      (fun ys => ys = mtF N es r [] ms) (fun pre => pre <+: mtF N es r [] ms) (3 ^ r) w0 :=
  fun l J Jx W h1 h2 h3 h4 hY h0 => mt_movesZ (fun _ => True) d n0 Ab Bg Bm b off n c0 N H r es ms w0 hn0 hA hG hM g hn hb hr hl hu hH hrH (fun _ _ => trivial) l J Jx W h1 h2 h3 h4 (fun pre x W1 k1 k2 k3 => hY pre x W1 k1 k2.1 k3) h0

end Go.Proofs.Ytaafbdpdpndplaa
