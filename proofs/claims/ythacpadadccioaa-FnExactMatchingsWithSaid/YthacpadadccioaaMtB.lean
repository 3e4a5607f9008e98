/- The search of matchings in the program: what it leaves alone, its boxes, and slices.Index at truth values. -/
import Derived.Test.YthacpadadccioaaMtA
import Derived.Test.YthacpadadccioaaMetV
import Derived.Test.YthacpadadccioaaIterB
import Derived.Test.YthacpadadccioaaMovesK
import Derived.Test.YthacpadadccioaaRndH
import Derived.Test.YthacpadadccioaaRowsM
import Derived.Test.YthacpadadccioaaRowN
import Derived.BigQuiet
import Derived.Deep.RegionLaw
namespace Go.Proofs.Ythacpadadccioaa
open Go.RowKit Go.Shelf

attribute [local go_sem] Oper.semAt_some

def idxV (ms : List Bool) (N : Nat) : Int := if lstF ms N < N then (lstF ms N : Int) else -1

set_option maxRecDepth 100000 in
set_option maxHeartbeats 2000000 in
theorem iIdxV_any (g N c : Nat) (ms : List Bool) (w : World) (hN : N ≤ 20) (ho : OwnV w g ms) :
    Calls Try.prog 171 #[.slice (some ⟨g, 0, none⟩) N c, .bool false] w fun e w' => e = .returned (.int .i64 (idxV ms N)) ∧ w = w' := by
  have HO := hid ho
  have hg := ho.lt
  obtain ⟨r, hR⟩ : ∃ r, idxV ms N = r := ⟨_, rfl⟩
  rw [hR]
  have HR := hid hR
  clear ho hR
  go_enter Try.func171, Try.ntmps171
  go_wp2
  go_loop [8] (fun i => ∃ k : Nat, k ≤ N ∧ i = .int .i64 k ∧ Hid (∀ j, j < k → eL ms j = true)) (fun i => N - (intOf i).toNat)
  case atStart => exact ⟨0, Nat.zero_le _, rfl, hid (fun j hj => by omega)⟩
  case round =>
    obtain ⟨k, hk, rfl, hE⟩ := hrel
    by_cases hlt : k < N
    · have hlt' : (k : Int) < (N : Int) := by omega
      have h1 := HO.out.cell (i := k) (by omega)
      obtain ⟨y, hy⟩ : ∃ y, eL ms k = y := ⟨_, rfl⟩
      rw [hy] at h1
      have HY := hid hy
      clear hy
      cases y
      · have HF := hid (show r = k by rw [← HR.out]; unfold idxV; rw [lstF_is (by omega : k ≤ N) hE.out (fun _ => HY.out), if_pos hlt])
        go_wp2
        go_ret
        rw [HF.out]
        exact ⟨rfl, rfl⟩
      · go_wp2
        go_round
        case rel =>
          refine ⟨k + 1, by omega, by go_num, hid (fun j hj => ?_)⟩
          rcases Nat.lt_or_ge j k with h | h
          · exact hE.out j h
          · obtain rfl : j = k := by omega
            exact HY.out
        case measure => simp [intOf]; omega
    · have hkN : k = N := by omega
      have HF := hid (show r = -1 by rw [← HR.out]; unfold idxV; rw [lstF_is (Nat.le_refl N) (by rw [← hkN]; exact hE.out) (fun h => absurd h (by omega)), if_neg (by omega)])
      have hlt' : ¬ ((k : Int) < (N : Int)) := by omega
      clear hkN
      go_wp2
      go_ret
      rw [HF.out]
      exact ⟨rfl, rfl⟩

/-- Blocks that are no rows of lists: a row of lists has more than one cell where it is written into. -/
def smallB (W : World) (i : Nat) : Prop := ∀ cur fr, W.heap[i]? = some (.cells cur 44 fr) → cur.size = 1
/-- What a round leaves alone where it ends the search. -/
def KeptX (A : Nat) (W W' : World) : Prop := W.heap.size ≤ W'.heap.size ∧ ∀ i, A ≤ i → i < W.heap.size → smallB W i → W'.heap[i]? = W.heap[i]?
/-- What a round leaves alone where the search goes on. -/
def KeptF (n0 A : Nat) (W W' : World) : Prop := Kept (fun i => i < n0) W W' ∧ KeptX A W W'
/-- What a search leaves alone, however it ends. -/
def KeptY (A gc ga : Nat) (W W' : World) : Prop := W.heap.size ≤ W'.heap.size ∧ ∀ i, A ≤ i → i < W.heap.size → i ≠ gc → i ≠ ga → smallB W i → W'.heap[i]? = W.heap[i]?
/-- What a search leaves alone that goes on. -/
def KeptR (n0 A gc ga : Nat) (W W' : World) : Prop := Kept (fun i => i < n0) W W' ∧ KeptY A gc ga W W'
/-- What the moves of the search itself leave alone. -/
def MvS (A gc ga : Nat) (X Y : World) : Prop := Kept (fun i => i < A) X Y ∧ ∀ i cur t fr, A ≤ i → i ≠ gc → i ≠ ga → X.heap[i]? = some (.cells cur t fr) → t ≠ 4 → Y.heap[i]? = X.heap[i]?

section
variable {n0 A gc ga : Nat} {W W' X Y Z : World}
theorem smallB.same {i : Nat} (h : smallB W i) (hk : W'.heap[i]? = W.heap[i]?) : smallB W' i := fun cur fr hc => h cur fr (hk.symm.trans hc)
theorem KeptX.toY (h : KeptX A W W') : KeptY A gc ga W W' := ⟨h.1, fun i h1 h2 _ _ h3 => h.2 i h1 h2 h3⟩
theorem KeptF.toR (h : KeptF n0 A W W') : KeptR n0 A gc ga W W' := ⟨h.1, h.2.toY⟩
theorem KeptX.trans (h : KeptX A X Y) (k : KeptX A Y Z) : KeptX A X Z :=
  ⟨Nat.le_trans h.1 k.1, fun i h1 h2 h3 => (k.2 i h1 (Nat.lt_of_lt_of_le h2 h.1) (h3.same (h.2 i h1 h2 h3))).trans (h.2 i h1 h2 h3)⟩
theorem KeptF.trans (h : KeptF n0 A X Y) (k : KeptF n0 A Y Z) : KeptF n0 A X Z := ⟨h.1.trans k.1, h.2.trans k.2⟩
theorem KeptY.trans (h : KeptY A gc ga X Y) (k : KeptY A gc ga Y Z) : KeptY A gc ga X Z :=
  ⟨Nat.le_trans h.1 k.1, fun i h1 h2 h4 h5 h3 => (k.2 i h1 (Nat.lt_of_lt_of_le h2 h.1) h4 h5 (h3.same (h.2 i h1 h2 h4 h5 h3))).trans (h.2 i h1 h2 h4 h5 h3)⟩
theorem KeptR.trans (h : KeptR n0 A gc ga X Y) (k : KeptR n0 A gc ga Y Z) : KeptR n0 A gc ga X Z := ⟨h.1.trans k.1, h.2.trans k.2⟩
theorem KeptY.below (h : Below W.heap.size W W') : KeptY A gc ga W W' := ⟨h.size, fun i _ h2 _ _ _ => h.block i h2⟩
theorem KeptR.below (h : Below W.heap.size W W') : KeptR n0 A gc ga W W' := ⟨(Kept.refl _ W).call h, KeptY.below h⟩
theorem KeptR.refl (n0 A gc ga : Nat) (W : World) : KeptR n0 A gc ga W W := KeptR.below (Below.refl _ _)
theorem KeptR.grown {g : Nat} (h : W.grownBy W' (some g)) (hg : g = gc ∨ g = ga) (hn : n0 ≤ g) : KeptR n0 A gc ga W W' :=
  ⟨⟨h.os, h.tape, h.output, h.size, fun i h1 h2 => h.block i h2 (fun e => by have := Option.some.inj e; omega)⟩, h.size, fun i _ h2 h3 h4 _ => h.block i h2 (fun e => by have := Option.some.inj e; omega)⟩
theorem KeptR.cell {g : Nat} {v : Value} {a : Addr} (ha : a.block = g) (hn : n0 ≤ g) (hg : W.heap.size ≤ g) (h : KeptR n0 A gc ga W X) : KeptR n0 A gc ga W (X.setCell a v) := by
  subst ha
  exact ⟨h.1.set (by omega) v, by simpa [World.setCell] using h.2.1, fun i h1 h2 h3 h4 h5 => (heap_setCell_other X a i v (by omega)).trans (h.2.2 i h1 h2 h3 h4 h5)⟩
theorem KeptY.cell {g : Nat} {v : Value} {a : Addr} (ha : a.block = g) (hg : W.heap.size ≤ g) (h : KeptY A gc ga W X) : KeptY A gc ga W (X.setCell a v) := by
  subst ha
  exact ⟨by simpa [World.setCell] using h.1, fun i h1 h2 h3 h4 h5 => (heap_setCell_other X a i v (by omega)).trans (h.2 i h1 h2 h3 h4 h5)⟩
theorem MvS.below (h : Below W.heap.size W W') : MvS A gc ga W W' := ⟨(Kept.refl _ W).call h, fun i _ _ _ _ _ _ hc _ => h.block i (Array.getElem?_eq_some_iff.1 hc).1⟩
theorem MvS.grown {g : Nat} (h : W.grownBy W' (some g)) (hg : g = gc ∨ g = ga) (hA : A ≤ g) : MvS A gc ga W W' :=
  ⟨⟨h.os, h.tape, h.output, h.size, fun i h1 h2 => h.block i h2 (fun e => by have := Option.some.inj e; omega)⟩, fun i _ _ _ _ h3 h4 hc _ => h.block i (Array.getElem?_eq_some_iff.1 hc).1 (fun e => by have := Option.some.inj e; omega)⟩
theorem MvS.obj {row : Option Nat} (h : W.grownBy W' row) (hr : ∀ r, row = some r → A ≤ r ∧ ∃ o : Obj, W.heap[r]? = some o ∧ o.isCells = false) : MvS A gc ga W W' :=
  ⟨⟨h.os, h.tape, h.output, h.size, fun i h1 h2 => h.block i h2 (fun e => by have := (hr i e.symm).1; omega)⟩, fun i cur t fr _ _ _ hc _ => h.block i (Array.getElem?_eq_some_iff.1 hc).1 (fun e => by
    obtain ⟨_, o, ho, hcl⟩ := hr i e.symm
    rw [hc] at ho
    cases ho
    cases hcl)⟩
theorem MvS.flag {B : Nat} {u v : Value} (hB : A ≤ B) (h : Boxed W B 4 u) : MvS A gc ga W (W.setCell ⟨B, 0, none⟩ v) :=
  ⟨(Kept.refl _ W).set (by show ¬ B < A; omega) v, fun i cur t fr _ _ _ hc ht => heap_setCell_other W ⟨B, 0, none⟩ i v (fun e => by
    have e' : i = B := e
    subst e'
    rw [show W.heap[i]? = _ from h] at hc
    injection hc with hc
    injection hc with _ hc2
    exact ht hc2.symm)⟩
theorem small_box {B : Nat} {t : TypeId} {u : Value} (h : Boxed W B t u) : smallB W B := fun cur fr hc => by
  rw [show W.heap[B]? = _ from h] at hc
  injection hc with hc
  injection hc with h1
  rw [← h1]
  rfl
end

theorem KeptR.put {n0 A gc ga : Nat} {W X : World} {D : Nat} (o : Obj) (h : KeptR n0 A gc ga W X) (hD : W.heap.size ≤ D) (hn : n0 ≤ D) : KeptR n0 A gc ga W (X.putObj D o) :=
  ⟨⟨h.1.os, h.1.tape, h.1.output, by simpa [World.putObj] using h.1.size, fun i h1 h2 => (World.putObj_heap_other (by omega)).trans (h.1.same i h1 h2)⟩, by simpa [World.putObj] using h.2.1, fun i h1 h2 h3 h4 h5 => (World.putObj_heap_other (by omega)).trans (h.2.2 i h1 h2 h3 h4 h5)⟩
theorem KeptY.put {A gc ga : Nat} {W X : World} {D : Nat} (o : Obj) (h : KeptY A gc ga W X) (hD : W.heap.size ≤ D) : KeptY A gc ga W (X.putObj D o) :=
  ⟨by simpa [World.putObj] using h.1, fun i h1 h2 h3 h4 h5 => (World.putObj_heap_other (by omega)).trans (h.2 i h1 h2 h3 h4 h5)⟩
theorem MvS.put {A gc ga : Nat} {X : World} {D : Nat} {o : Obj} (o' : Obj) (hD : A ≤ D) (h : X.heap[D]? = some o) (ho : o.isCells = false) : MvS A gc ga X (X.putObj D o') :=
  MvS.obj (grownBy_putObj' X D o') (fun r e => by cases e; exact ⟨hD, o, h, ho⟩)

theorem KeptY.from {A gc ga B0 : Nat} {W W' : World} (h : KeptY A gc ga W W') (hA : A ≤ B0) (hgc : gc < B0) (hga : ga < B0) : KeepsFrom B0 W W' :=
  ⟨h.1, fun i o hi ho hc => (h.2 i (by omega) (Array.getElem?_eq_some_iff.1 ho).1 (by omega) (by omega) (fun cur fr hh => by rw [ho] at hh; cases hh; cases hc)).trans ho⟩

/-- The boxes of a call of the search, from block B on. -/
structure FrM (W : World) (B : Nat) (s : Int) (b off n c0 gc k H ga l : Nat) : Prop where
  g : W.heap[B]? = some (.cells #[.int .i64 s, .slice (some ⟨b, off, none⟩) n c0] 30 (0, 0))
  c : Boxed W (B + 1) 44 (.slice (some ⟨gc, 0, none⟩) k H)
  m : Boxed W (B + 1 + 1) 147 (.pointer (some ⟨ga, 0, none⟩))
  y : Boxed W (B + 1 + 1 + 1) 145 (.func (.yield l) #[] #[])
  r : Boxed W (B + 1 + 1 + 1 + 1) 4 (.bool false)
section
variable {W W' : World} {B b off n c0 gc k H ga l A : Nat} {s : Int}
theorem FrM.same (h : FrM W B s b off n c0 gc k H ga l) (hk : ∀ i, B ≤ i → i ≤ B + 4 → W'.heap[i]? = W.heap[i]?) : FrM W' B s b off n c0 gc k H ga l :=
  ⟨(hk _ (by omega) (by omega)).trans h.g, (hk _ (by omega) (by omega)).trans h.c, (hk _ (by omega) (by omega)).trans h.m, (hk _ (by omega) (by omega)).trans h.y, (hk _ (by omega) (by omega)).trans h.r⟩
theorem FrM.small (h : FrM W B s b off n c0 gc k H ga l) {i : Nat} (h1 : B ≤ i) (h2 : i ≤ B + 4) : smallB W i := by
  rcases (by omega : i = B ∨ i = B + 1 ∨ i = B + 1 + 1 ∨ i = B + 1 + 1 + 1 ∨ i = B + 1 + 1 + 1 + 1) with rfl | rfl | rfl | rfl | rfl
  · intro cur fr hc
    rw [h.g] at hc
    injection hc with hc
    injection hc with _ hc2
    exact absurd hc2 (by decide)
  · exact small_box h.c
  · exact small_box h.m
  · exact small_box h.y
  · exact small_box h.r
theorem FrM.lt (h : FrM W B s b off n c0 gc k H ga l) : B + 4 < W.heap.size := h.r.lt
theorem FrM.kept (h : FrM W B s b off n c0 gc k H ga l) (hA : A ≤ B) (hgc : gc < B) (hga : ga < B) (hk : KeptY A gc ga W W') : FrM W' B s b off n c0 gc k H ga l :=
  h.same fun i h1 h2 => hk.2 i (by omega) (by have := h.lt; omega) (by omega) (by omega) (h.small h1 h2)
theorem FrM.on (h : FrM W B s b off n c0 gc k H ga l) (hb : Below W.heap.size W W') : FrM W' B s b off n c0 gc k H ga l := h.same fun i _ h2 => hb.block i (by have := h.lt; omega)
end
theorem frM_new (w : World) (s : Int) (b off n c0 gc k H ga l : Nat) :
    FrM (((((w.alloc (.cells #[.int .i64 s, .slice (some ⟨b, off, none⟩) n c0] 30)).alloc (.cells #[.slice (some ⟨gc, 0, none⟩) k H] 44)).alloc (.cells #[.pointer (some ⟨ga, 0, none⟩)] 147)).alloc (.cells #[.func (.yield l) #[] #[]] 145)).alloc (.cells #[.bool false] 4)) w.heap.size s b off n c0 gc k H ga l := by
  refine ⟨?_, ((((boxedN_at _ _ _ _ (by simp)).alloc _).alloc _).alloc _), (((boxedN_at _ _ _ _ (by simp)).alloc _).alloc _), ((boxedN_at _ _ _ _ (by simp)).alloc _), boxedN_at _ _ _ _ (by simp)⟩
  have h := ((((on_alloc (w.alloc (.cells #[.int .i64 s, .slice (some ⟨b, off, none⟩) n c0] 30)) (.cells #[.slice (some ⟨gc, 0, none⟩) k H] 44)).alloc (by simp) (.cells #[.pointer (some ⟨ga, 0, none⟩)] 147)).alloc (by simp) (.cells #[.func (.yield l) #[] #[]] 145)).alloc (by simp) (.cells #[.bool false] 4)).block w.heap.size (by simp)
  exact h.trans (World.alloc_heap_new w _)

/-- The one result, read out of its cell. -/
theorem results_flag {fn : Func} {p : Tmp} (h : fn.results = #[.cell p 4]) (tmps : Array Value) (w : World) (g : Nat) (x : Bool) (h1 : tmps.getD p undef = .pointer (some ⟨g, 0, none⟩)) (hx : Boxed w g 4 (.bool x)) :
    (results fn tmps).run Try.prog w = .ok (.bool x) w := by
  have e1 : tmps[p]?.getD undef = .pointer (some ⟨g, 0, none⟩) := by simpa using h1
  have ha : (isAgg 4).run Try.prog w = .ok false w := by
    unfold isAgg
    rw [Sem.run_bind, run_underlying Try.underlying4 w]
    rfl
  have c1 := hx.cell
  simp [results, h, e1, asAddr, loadVar, Sem.run_bind, ha, c1, Result.andThen]

end Go.Proofs.Ythacpadadccioaa
