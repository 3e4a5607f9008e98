/- The search of matchings in the program: goOnMatching. -/
import Derived.Test.YthacpadadccioaaMtB
import Derived.Test.YthacpadadccioaaStepA
namespace Go.Proofs.Ythacpadadccioaa
open Go.RowKit Go.Shelf

attribute [local go_sem] Oper.semAt_some

set_option maxRecDepth 100000 in
set_option maxHeartbeats 8000000 in
/-- No vertex is left: the list is handed on. -/
theorem goM_leaf (n0 A gc ga l Nn b off n c0 N H C : Nat) (es : List (Int × Int)) (g : IsG N es) (hA0 : n0 ≤ A) (hgc : A ≤ gc) (hga : A ≤ ga) (J Jx : List (List Int) → World → Prop)
    (hJ : ∀ st X Y, J st X → MvS A gc ga X Y → J st Y) (hJx : ∀ st X Y, Jx st X → MvS A gc ga X Y → Jx st Y)
    (hY : ∀ m pre x W, J pre W → OwnI W gc C x → x.length = H → ga < W.heap.size → pre.length < Nn → YieldAt Fence.wide m Try.prog l #[.slice (some ⟨gc, 0, none⟩) H C] W fun e W' => (e = .returned (.bool true) ∧ J (pre ++ [x]) W' ∧ KeptF n0 A W W') ∨ (e = .returned (.bool false) ∧ Jx (pre ++ [x]) W' ∧ KeptX A W W'))
    (c : List Int) (ms : List Bool) (pre : List (List Int)) (W : World) (hc : c.length = H) (hm : unmF ms N = 0) (hO : OwnI W gc C c) (hT : OwnV W ga ms) (h0 : J pre W) (hN : pre.length < Nn) :
    Calls Try.prog 148 #[.agg #[.int .i64 N, .slice (some ⟨b, off, none⟩) n c0], .slice (some ⟨gc, 0, none⟩) H C, .pointer (some ⟨ga, 0, none⟩), .func (.yield l) #[] #[]] W fun e W' =>
      (e = .returned (.bool true) ∧ J (pre ++ [c]) W' ∧ OwnI W' gc C c ∧ OwnV W' ga ms ∧ KeptR n0 A gc ga W W') ∨ (e = .returned (.bool false) ∧ Jx (pre ++ [c]) W' ∧ KeptY A gc ga W W') := by
  have hN20 : N ≤ 20 := by have := g.1.1.2.1; omega
  have hidx : idxV ms N = -1 := by unfold idxV; rw [unmF_zero hm, if_neg (by omega)]
  have hgcW := hO.lt
  have hgaW := hT.lt
  obtain ⟨w1, hw1⟩ : ∃ w1, w1 = ((((W.alloc (.cells #[.int .i64 N, .slice (some ⟨b, off, none⟩) n c0] 30)).alloc (.cells #[.slice (some ⟨gc, 0, none⟩) H C] 44)).alloc (.cells #[.pointer (some ⟨ga, 0, none⟩)] 147)).alloc (.cells #[.func (.yield l) #[] #[]] 145)).alloc (.cells #[.bool false] 4) := ⟨_, rfl⟩
  have HB1 := hid (show Below W.heap.size W w1 by rw [hw1]; exact bfrom (bfrom (bfrom (bfrom (on_alloc _ _) (on_alloc _ _)) (on_alloc _ _)) (on_alloc _ _)) (on_alloc _ _))
  have HF1 := hid (show FrM w1 W.heap.size N b off n c0 gc H C ga l by rw [hw1]; exact frM_new W N b off n c0 gc H C ga l)
  have HZ1 := hid (show w1.heap.size = W.heap.size + 5 by rw [hw1]; simp)
  have HIdx := hid hidx
  have HO := hid hO
  have HT := hid hT
  have HJ1 := hid (hJ pre W w1 h0 (MvS.below HB1.out))
  have HJ := hid hJ
  have HJx := hid hJx
  have HY := hid hY
  clear hidx hO hT h0 hJ hJx hY
  refine (callsIn_wide (n := 2)).1 ?_
  refine callsIn_of_wp Try.func148 rfl trivial ?_ rfl
  simp only [Try.ntmps148, List.size_toArray, List.length_cons, List.length_nil, Nat.reduceAdd, Nat.reduceSub, Array.replicate_succ, Array.replicate_zero, List.push_toArray, List.append_toArray, List.nil_append, List.cons_append]
  gi_wp2
  rw [← hw1]
  clear hw1
  have hg0 : w1.cell? ⟨W.heap.size, 0, none⟩ = some (.int .i64 N) := by simp [World.cell?, HF1.out.g]
  have hcm := HF1.out.m.cell
  have hcy := HF1.out.y.cell
  have hcc := HF1.out.c.cell
  have hcr := HF1.out.r.cell
  have hfr := HF1.out.r.frozen
  have hzr := HF1.out.r.lt
  have hT1 := HT.out.on HB1.out
  have HT1 := hid hT1
  clear hT1
  have hN20' : (N : Int) ≤ 20 := by omega
  have hN0' : ¬ ((20 : Int) < (N : Int)) := by omega
  have hN0'' : (0 : Int) ≤ (N : Int) := by omega
  refine region_wide ?_
  have HIx := hid (fun k => show Calls Try.prog 171 #[.slice (some ⟨ga, 0, none⟩) N 20, .bool false] (w1.drewN k) (fun e w'' => e = .returned (.int .i64 (-1)) ∧ ∃ m, w'' = w1.drewN m) from Calls.quiet_of_same ((iIdxV_any ga N 20 ms _ hN20 (OwnV.keep (w' := World.drewN _ _) HT1.out rfl)).mono fun _ _ ⟨a, b⟩ => ⟨by rw [a, HIdx.out], b.symm⟩))
  go_quiet ((go_at_call 171; exact HIx.out _))
  obtain ⟨fn, tmps, assign, body, hy, hR⟩ := HY.out 1 pre c (w1.drewN nq) (HJ.out _ _ _ HJ1.out (MvS.below (bdn.mpr (Below.refl _ _)))) (OwnI.keep (w' := World.drewN _ _) (HO.out.on HB1.out) rfl) hc (by show ga < w1.heap.size; have := HZ1.out; omega) hN
  have hR' := hid hR
  clear hR HY
  gi_wp2
  refine hR'.out.mono ?_
  have hsm : ∀ i, W.heap.size ≤ i → i ≤ W.heap.size + 4 → smallB (w1.drewN nq) i := fun i h1 h2 => (HF1.out.small h1 h2).same rfl
  have HSm := hid hsm
  clear hsm
  rintro e W3 (⟨rfl, hJ3, hk3⟩ | ⟨rfl, hJx3, hk3⟩)
  · have hF3 : FrM W3 W.heap.size N b off n c0 gc H C ga l := HF1.out.same fun i h1 h2 => hk3.2.2 i (by omega) (by show i < w1.heap.size; have := HZ1.out; omega) (HSm.out i h1 h2)
    have hr3 := hF3.r
    have hcr3 := hr3.cell
    have hfr3 := hr3.frozen
    have hzr3 := hr3.lt
    have HJ3 := hid (HJ.out _ _ (W3.setCell ⟨W.heap.size + 1 + 1 + 1 + 1, 0, none⟩ (.bool true)) hJ3 (MvS.flag (by omega) hr3))
    have HR3 := hid (Boxed.set (.bool true) hr3)
    have hgc2 : smallB (w1.drewN nq) gc := fun cur fr hc => by
      obtain ⟨cur2, hc2, _⟩ := HO.out.on HB1.out
      rw [show (w1.drewN nq).heap[gc]? = w1.heap[gc]? from rfl, hc2] at hc
      injection hc with hc
      injection hc with _ hc3
      exact absurd hc3 (by decide)
    have hga2 : smallB (w1.drewN nq) ga := fun cur fr hc => by
      obtain ⟨_, cur2, hc2, _⟩ := HT1.out
      rw [show (w1.drewN nq).heap[ga]? = w1.heap[ga]? from rfl, hc2] at hc
      injection hc with hc
      injection hc with _ hc3
      exact absurd hc3 (by decide)
    have HO3 := hid (show OwnI W3 gc C c from (HO.out.on HB1.out).keep (hk3.2.2 gc hgc (by show gc < w1.heap.size; have := HZ1.out; omega) hgc2))
    have HT3 := hid (show OwnV W3 ga ms from HT1.out.keep (hk3.2.2 ga hga (by show ga < w1.heap.size; have := HZ1.out; omega) hga2))
    have HK3 := hid (show KeptR n0 A gc ga W W3 from (KeptR.below (by exact bdn.mpr HB1.out)).trans hk3.toR)
    clear hJ3 hk3 hF3 hr3 hgc2 hga2
    gi_wp2
    refine bodyPost_ret (results_flag rfl _ _ (W.heap.size + 1 + 1 + 1 + 1) true rfl HR3.out) rfl ?_
    exact .inl ⟨rfl, HJ3.out, HO3.out.far (by show gc ≠ W.heap.size + 1 + 1 + 1 + 1; omega) _, HT3.out.far (by show ga ≠ W.heap.size + 1 + 1 + 1 + 1; omega) _, HK3.out.cell (g := W.heap.size + 1 + 1 + 1 + 1) rfl (by omega) (by omega)⟩
  · have hF3 : FrM W3 W.heap.size N b off n c0 gc H C ga l := HF1.out.same fun i h1 h2 => hk3.2 i (by omega) (by show i < w1.heap.size; have := HZ1.out; omega) (HSm.out i h1 h2)
    have hr3 := hF3.r
    have hcr3 := hr3.cell
    have hfr3 := hr3.frozen
    have hzr3 := hr3.lt
    have HJ3 := hid (HJx.out _ _ (W3.setCell ⟨W.heap.size + 1 + 1 + 1 + 1, 0, none⟩ (.bool false)) hJx3 (MvS.flag (by omega) hr3))
    have HR3 := hid (Boxed.set (.bool false) hr3)
    have HK3 := hid (show KeptY A gc ga W W3 from (KeptY.below (by exact bdn.mpr HB1.out)).trans hk3.toY)
    clear hJx3 hk3 hF3 hr3
    gi_wp2
    refine bodyPost_ret (results_flag rfl _ _ (W.heap.size + 1 + 1 + 1 + 1) false rfl HR3.out) rfl ?_
    exact .inr ⟨rfl, HJ3.out, HK3.out.cell (g := W.heap.size + 1 + 1 + 1 + 1) rfl (by omega)⟩

theorem arU_pre (es : List (Int × Int)) (v : Int) : ∀ k m, k ≤ m → (arU es v k).map Prod.fst <+: (arU es v m).map Prod.fst := by
  intro k m h
  obtain ⟨j, rfl⟩ : ∃ j, m = k + j := ⟨m - k, by omega⟩
  unfold arU
  rw [List.map_map, List.map_map, List.range_add, List.filter_append, List.map_append]
  exact ⟨_, rfl⟩

/-- What lies there while the edges at the vertex are gone through. -/
structure StM (n0 A gc ga b off n c0 l C V B Bv : Nat) (s : Int) (es : List (Int × Int)) (F : List Int → List Bool → List (List Int)) (c : List Int) (ms : List Bool) (pre : List (List Int)) (J : List (List Int) → World → Prop) (w1 : World) (L : List (ArS es V)) (W : World) : Prop where
  j : J (pre ++ mtQ es F V c ms (L.map fun x => x.1.1)) W
  o : OwnI W gc C c
  t : OwnV W ga ms
  f : FrM W B s b off n c0 gc c.length C ga l
  v : Boxed W Bv 2 (.int .i64 (V : Int))
  k : KeptR n0 A gc ga w1 W
theorem stM_own {n0 A gc ga b off n c0 l C V B Bv B0 : Nat} {s : Int} {es : List (Int × Int)} {F : List Int → List Bool → List (List Int)} {c : List Int} {ms : List Bool} {pre : List (List Int)} {J : List (List Int) → World → Prop} {w1 : World}
    (hJ : ∀ st X Y, J st X → MvS A gc ga X Y → J st Y) (h1 : w1.heap.size ≤ B0) (hA : A ≤ B0) (hgc : gc < B0) (hga : ga < B0) (hB : B + 4 < B0) (hv : Bv < B0) : OwnFrom B0 (StM n0 A gc ga b off n c0 l C V B Bv s es F c ms pre J w1) := by
  intro L W W' row h hg hr
  have hne : ∀ i, i < B0 → i < W.heap.size → W'.heap[i]? = W.heap[i]? := fun i h1 h2 => hg.block i h2 (fun e => by have := (hr i e.symm).1; omega)
  refine ⟨hJ _ _ _ h.j (MvS.obj hg (fun r e => ⟨by have := (hr r e).1; omega, (hr r e).2⟩)), h.o.keep (hne _ hgc h.o.lt), h.t.keep (hne _ hga h.t.lt), h.f.same (fun i _ h2 => hne i (by omega) (by have := h.f.lt; omega)), (hne _ hv h.v.lt).trans h.v, ⟨⟨hg.os.trans h.k.1.os, hg.tape.trans h.k.1.tape, hg.output.trans h.k.1.output, Nat.le_trans h.k.1.size hg.size, fun i h2 h3 => (hne i (by omega) (Nat.lt_of_lt_of_le h3 h.k.1.size)).trans (h.k.1.same i h2 h3)⟩, Nat.le_trans h.k.2.1 hg.size, fun i h2 h3 h4 h5 h6 => (hne i (by omega) (Nat.lt_of_lt_of_le h3 h.k.1.size)).trans (h.k.2.2 i h2 h3 h4 h5 h6)⟩⟩
/-- What lies there when a round has ended the search. -/
structure StX (A gc ga V B : Nat) (es : List (Int × Int)) (F : List Int → List Bool → List (List Int)) (c : List Int) (ms : List Bool) (pre : List (List Int)) (Jx : List (List Int) → World → Prop) (w1 : World) (c' : Code) (L : List (ArS es V)) (W : World) : Prop where
  cc : c' = .ret
  j : ∃ q, q <+: mtQ es F V c ms (L.map fun x => x.1.1) ∧ Jx (pre ++ q) W
  r : Boxed W (B + 1 + 1 + 1 + 1) 4 (.bool false)
  k : KeptY A gc ga w1 W
theorem stX_own {A gc ga V B B0 : Nat} {es : List (Int × Int)} {F : List Int → List Bool → List (List Int)} {c : List Int} {ms : List Bool} {pre : List (List Int)} {Jx : List (List Int) → World → Prop} {w1 : World} {c' : Code}
    (hJ : ∀ st X Y, Jx st X → MvS A gc ga X Y → Jx st Y) (h1 : w1.heap.size ≤ B0) (hA : A ≤ B0) (hB : B + 4 < B0) : OwnFrom B0 (StX A gc ga V B es F c ms pre Jx w1 c') := by
  intro L W W' row h hg hr
  have hne : ∀ i, i < B0 → i < W.heap.size → W'.heap[i]? = W.heap[i]? := fun i h1 h2 => hg.block i h2 (fun e => by have := (hr i e.symm).1; omega)
  obtain ⟨q, hq, hj⟩ := h.j
  exact ⟨h.cc, ⟨q, hq, hJ _ _ _ hj (MvS.obj hg (fun r e => ⟨by have := (hr r e).1; omega, (hr r e).2⟩))⟩, (hne _ (by omega) h.r.lt).trans h.r, ⟨Nat.le_trans h.k.1 hg.size, fun i h2 h3 h4 h5 h6 => (hne i (by omega) (Nat.lt_of_lt_of_le h3 h.k.1)).trans (h.k.2 i h2 h3 h4 h5 h6)⟩⟩

set_option maxRecDepth 100000 in
set_option maxHeartbeats 16000000 in
/-- One edge more. -/
theorem goM_step (n0 A gc ga l Nn b off n c0 N H C r : Nat) (es : List (Int × Int)) (g : IsG N es) (hn : es.length = n) (hb : b < n0) (hA0 : n0 ≤ A) (hgc : A ≤ gc) (hga : A ≤ ga) (hne : gc ≠ ga) (J Jx : List (List Int) → World → Prop)
    (hJ : ∀ st X Y, J st X → MvS A gc ga X Y → J st Y) (hJx : ∀ st X Y, Jx st X → MvS A gc ga X Y → Jx st Y)
    (ih : ∀ (c : List Int) (ms : List Bool) (pre : List (List Int)) (W : World), c.length + r = H → unmF ms N = 2 * r → ReadsE W b off es → OwnI W gc C c → OwnV W ga ms → J pre W → pre.length + 3 ^ r ≤ Nn →
      Calls Try.prog 148 #[.agg #[.int .i64 N, .slice (some ⟨b, off, none⟩) n c0], .slice (some ⟨gc, 0, none⟩) c.length C, .pointer (some ⟨ga, 0, none⟩), .func (.yield l) #[] #[]] W fun e W' =>
        (e = .returned (.bool true) ∧ J (pre ++ mtF N es r c ms) W' ∧ OwnI W' gc C c ∧ OwnV W' ga ms ∧ KeptR n0 A gc ga W W') ∨ (e = .returned (.bool false) ∧ (∃ q, q <+: mtF N es r c ms ∧ Jx (pre ++ q) W') ∧ KeptY A gc ga W W'))
    (c : List Int) (ms : List Bool) (pre : List (List Int)) (W : World) (hc : c.length + (r + 1) = H) (hHC : H ≤ C) (hm : unmF ms N = 2 * (r + 1)) (hr : ReadsE W b off es) (hO : OwnI W gc C c) (hT : OwnV W ga ms) (h0 : J pre W) (hN : pre.length + 3 ^ (r + 1) ≤ Nn) :
    Calls Try.prog 148 #[.agg #[.int .i64 N, .slice (some ⟨b, off, none⟩) n c0], .slice (some ⟨gc, 0, none⟩) c.length C, .pointer (some ⟨ga, 0, none⟩), .func (.yield l) #[] #[]] W fun e W' =>
      (e = .returned (.bool true) ∧ J (pre ++ mtF N es (r + 1) c ms) W' ∧ OwnI W' gc C c ∧ OwnV W' ga ms ∧ KeptR n0 A gc ga W W') ∨ (e = .returned (.bool false) ∧ (∃ q, q <+: mtF N es (r + 1) c ms ∧ Jx (pre ++ q) W') ∧ KeptY A gc ga W W') := by
  have hN20 : N ≤ 20 := by have := g.1.1.2.1; omega
  have hn30 : n ≤ 30 := by have := isG_len g; omega
  obtain ⟨V, hV⟩ : ∃ V, lstF ms N = V := ⟨_, rfl⟩
  have hVN : V < N := by rw [← hV]; exact unmF_pos (by omega)
  have hidx : idxV ms N = V := by unfold idxV; rw [hV, if_pos hVN]
  have hVf : eL ms V = false := by rw [← hV]; exact lstF_free ms N (by rw [hV]; exact hVN)
  have hgcW := hO.lt
  have hgaW := hT.lt
  obtain ⟨w1, hw1⟩ : ∃ w1, w1 = ((((W.alloc (.cells #[.int .i64 N, .slice (some ⟨b, off, none⟩) n c0] 30)).alloc (.cells #[.slice (some ⟨gc, 0, none⟩) c.length C] 44)).alloc (.cells #[.pointer (some ⟨ga, 0, none⟩)] 147)).alloc (.cells #[.func (.yield l) #[] #[]] 145)).alloc (.cells #[.bool false] 4) := ⟨_, rfl⟩
  have HB1 := hid (show Below W.heap.size W w1 by rw [hw1]; exact bfrom (bfrom (bfrom (bfrom (on_alloc _ _) (on_alloc _ _)) (on_alloc _ _)) (on_alloc _ _)) (on_alloc _ _))
  have HF1 := hid (show FrM w1 W.heap.size N b off n c0 gc c.length C ga l by rw [hw1]; exact frM_new W N b off n c0 gc c.length C ga l)
  have HZ1 := hid (show w1.heap.size = W.heap.size + 5 by rw [hw1]; simp)
  have HIdx := hid hidx
  have HV := hid hV
  have HVf := hid hVf
  have HO := hid hO
  have HT := hid hT
  have HJ1 := hid (hJ pre W w1 h0 (MvS.below HB1.out))
  have HJ := hid hJ
  have HJx := hid hJx
  have HIH := hid ih
  have HM := hid hm
  have HC := hid hc
  have HN := hid hN
  have Hn := hid hn
  have G := hid g
  have HR := hid hr
  obtain ⟨i0, hi, _, hy1, _⟩ := info_parts infoInt
  have Hi := hid hi
  clear hidx hV hVf hO hT h0 hJ hJx ih hm hc hN hn g hr hi
  refine (callsIn_wide (n := 6)).1 ?_
  refine callsIn_of_wp_marks Try.func148 rfl trivial ?_ rfl
  simp only [Try.ntmps148, List.size_toArray, List.length_cons, List.length_nil, Nat.reduceAdd, Nat.reduceSub, Array.replicate_succ, Array.replicate_zero, List.push_toArray, List.append_toArray, List.nil_append, List.cons_append]
  gi_wp2
  rw [← hw1]
  clear hw1
  have hg0 : w1.cell? ⟨W.heap.size, 0, none⟩ = some (.int .i64 N) := by simp [World.cell?, HF1.out.g]
  have hg1 : w1.cell? ⟨W.heap.size, 1, none⟩ = some (.slice (some ⟨b, off, none⟩) n c0) := by simp [World.cell?, HF1.out.g]
  have hcm := HF1.out.m.cell
  have hzr := HF1.out.r.lt
  have HT1 := hid (HT.out.on HB1.out)
  have hN20' : (N : Int) ≤ 20 := by omega
  have hN0'' : (0 : Int) ≤ (N : Int) := by omega
  refine region_wide ?_
  have HIx := hid (fun k => show Calls Try.prog 171 #[.slice (some ⟨ga, 0, none⟩) N 20, .bool false] (w1.drewN k) (fun e w'' => e = .returned (.int .i64 (V : Int)) ∧ ∃ m, w'' = w1.drewN m) from Calls.quiet_of_same ((iIdxV_any ga N 20 ms _ hN20 (OwnV.keep (w' := World.drewN _ _) HT1.out rfl)).mono fun _ _ ⟨a, b⟩ => ⟨by rw [a, HIdx.out], b.symm⟩))
  go_quiet ((go_at_call 171; exact HIx.out _))
  gi_wp2_with (refine ⟨trivial, ?_⟩; gi_at_call 123; refine (callsIn_wide.2 (iAround_any _ _ _ _ _ _)).mono ?_; rintro e w' ⟨rfl, rfl⟩)
  obtain ⟨W0, hW0⟩ : ∃ W0 : World, W0 = ((w1.drewN nq).alloc (.cells #[.int .i64 N, .slice (some ⟨b, off, none⟩) n c0] 30)).alloc (.cells #[.int .i64 V] 2) := ⟨_, rfl⟩
  have HB0 := hid (show Below w1.heap.size w1 W0 by rw [hW0]; exact ((bdn.mpr (Below.refl _ _)).alloc (Nat.le_refl _) _).alloc (by simp) _)
  have hsz : W0.heap.size = w1.heap.size + 2 := by rw [hW0]; simp
  have hbG : W0.cell? ⟨w1.heap.size, 1, none⟩ = some (.slice (some ⟨b, off, none⟩) n c0) := by
    rw [hW0]
    exact ((Box.new (w1.drewN nq) N (some ⟨b, off, none⟩) n c0 30).on (on_alloc _ _)).2
  have hbV : Boxed W0 (w1.heap.size + 1) 2 (.int .i64 V) := by rw [hW0]; exact boxedN_at _ _ _ _ (by simp)
  rw [← hW0]
  clear hW0
  have HZ0 := hid hsz
  have hz1 := HZ1.out
  have HJ0 := hid (HJ.out _ _ W0 HJ1.out (MvS.below HB0.out))
  have HBV := hid hbV
  refine wpIn_rangeFunc_ownG (n := 6) rfl (by omega) (gf := 152) (lb := #[.pointer (some ⟨w1.heap.size, 0, none⟩), .pointer (some ⟨w1.heap.size + 1, 0, none⟩)]) rfl trivial (enters_of Try.func152 (by kernel_rfl) rfl)
    (aroundS_stops 5 (by omega) w1.heap.size (w1.heap.size + 1) n0 b off n c0 V es Hn.out hn30 hb W0 (by omega) hbG hbV.cell (by omega) (by omega) ((HR.out.on HB1.out).on HB0.out)) kpB_t (kpB_b (by omega) (by omega)) (Below.refl _ _) (fun _ => rfl)
    (StM n0 A gc ga b off n c0 l C V W.heap.size (w1.heap.size + 1) N es (mtF N es r) c ms pre J w1)
    (StX A gc ga V W.heap.size es (mtF N es r) c ms pre Jx W)
    (stM_own HJ.out (by omega) (by omega) (by omega) (by omega) (by omega) (by omega))
    (fun c' => stX_own HJx.out (by omega) (by omega) (by omega))
    ⟨by show J (pre ++ []) W0; rw [List.append_nil]; exact HJ0.out, (HO.out.on HB1.out).on HB0.out, HT1.out.on HB0.out, HF1.out.on HB0.out, hbV, KeptR.below HB0.out⟩
    ?a1 ?assign ?body ?done ?stop
  case assign =>
    intro l x W K hK
    gi_wp2
    exact hK
  case body =>
    rintro l' pre' ⟨⟨f, u⟩, hfl, hfo, hfu⟩ W' hS hlt
    have HS := hid hS
    have hout := oth_in (endsIn_of G.out) hfl hfo
    have HFO := hid (show onE es V f = true from hfo)
    have HFL := hid (show f < es.length from hfl)
    have hu1 : u = othE es V f := hfu
    rw [show othE es V (f, u).1 = othE es V f from rfl, ← hu1] at hout
    obtain ⟨U, rfl⟩ : ∃ U : Nat, u = U := ⟨_, (Int.toNat_of_nonneg hout.1).symm⟩
    have hU : othE es V f = U := hu1.symm
    clear hu1
    have hUN : U < N := by omega
    have hU20 : (U : Int) < 20 := by omega
    have hcm := hS.f.m.cell
    have hcU := hS.t.cell (i := U) (by omega)
    have hgaW' := hS.t.lt
    have hzr' := hS.f.r.lt
    have hg1' : W'.cell? ⟨W.heap.size, 1, none⟩ = some (.slice (some ⟨b, off, none⟩) n c0) := by simp [World.cell?, hS.f.g]
    have hg0' : W'.cell? ⟨W.heap.size, 0, none⟩ = some (.int .i64 N) := by simp [World.cell?, hS.f.g]
    have HUo := hid hU
    clear hS hout hU
    cases hmet : eL ms U
    · have HMet := hid hmet
      rw [hmet] at hcU
      clear hmet
      have hRd := HR.out.keep ((HS.out.k.1.same b hb (by show b < w1.heap.size; omega)).trans (HB1.out.block b (by omega)))
      have hok := G.out.1.2 f HFL.out
      have hs20 := G.out.1.1.2.1
      have hc1 := (hRd f HFL.out).1
      have hc2 := (hRd f HFL.out).2
      have hbW : b < W'.heap.size := reads_lt hRd (by omega)
      obtain ⟨X, hX1⟩ : ∃ X : Nat, eA es f = X := ⟨_, (Int.toNat_of_nonneg hok.1).symm⟩
      obtain ⟨Y, hY1⟩ : ∃ Y : Nat, eB es f = Y := ⟨_, (Int.toNat_of_nonneg hok.2.2.1).symm⟩
      have hX2 : X < 20 := by have := hok.2.1; omega
      have hY2 : Y < 20 := by have := hok.2.2.2.1; omega
      have hXY : ¬ X = Y := fun e => hok.2.2.2.2 (by rw [hX1, hY1, e])
      have hends : (X = V ∧ Y = U) ∨ (X = U ∧ Y = V) := by
        have h1 := HFO.out
        have h2 := HUo.out
        unfold onE at h1
        unfold othE at h2
        simp only [Bool.or_eq_true, beq_iff_eq] at h1
        rw [hX1, hY1] at h1 h2
        omega
      have hVU : V ≠ U := by omega
      have hms : ms.length = 20 := HS.out.t.1
      have HON := hid (markV_ends (ms := ms) hends hVU)
      have HOFF := hid (markV_off (ms := ms) hends hVU (by omega) (by omega) HVf.out HMet.out)
      have hfn : (f : Int) < (n : Int) := by have := Hn.out; have := HFL.out; omega
      rw [hX1] at hc1
      rw [hY1] at hc2
      have HRd := hid hRd
      clear hok hX1 hY1 hRd
      gi_wp2
      refine region_tail_roundH 6 (by kernel_rfl) (by kernel_rfl) (by kernel_rfl) ?_
      simp only [List.take_succ_cons, List.take_zero, List.drop_succ_cons, List.drop_zero]
      repeat still_step
      refine wpStill_nil ?_
      gi_wp2_with fail
      refine ⟨trivial, ?_⟩
      refine (callsIn_wide.2 (iAdd_any ga X Y ms _ hX2 hY2 hXY (OwnV.keep (w' := World.drew _) HS.out.t rfl))).mono ?_
      rw [HON.out]
      rintro e w5 ⟨rfl, ho5, hg5⟩
      have hg5' : W'.grownBy w5 (some ga) := ⟨hg5.os, hg5.tape, hg5.output, hg5.size, hg5.block⟩
      have HT5 := hid ho5
      have HK5 := hid (show KeptR n0 A gc ga W' w5 from KeptR.grown hg5' (.inr rfl) (by omega))
      have HJ5 := hid (HJ.out _ _ w5 HS.out.j (MvS.grown hg5' (.inr rfl) hga))
      have HO5 := hid (HS.out.o.keep (hg5'.block gc HS.out.o.lt (fun e => hne (Option.some.inj e))))
      have HF5 := hid (HS.out.f.kept (by omega) (by omega) (by omega) HK5.out.2)
      have hz5 := hg5'.size
      clear ho5 hg5 hg5'
      gi_wp2
      have HFD : FrM w5.drew W.heap.size N b off n c0 gc c.length C ga l := HF5.out.on (Below.refl _ _).drew
      refine region_held_round (S := fun w' => FrM w' W.heap.size N b off n c0 gc c.length C ga l) (by kernel_rfl) (by kernel_rfl) ?_
      refine wpAnyH_take (i := 2) (v := .int .i64 (f : Int)) rfl (by kernel_rfl) (by kernel_rfl) (by kernel_rfl) (fun _ _ _ h => h) (Or.inl ⟨by rfl, fun w hSw => ?_⟩) (by assumption) ?_
      · go_simp
      simp only [Act.put, List.getElem_toArray, List.getElem_cons_zero, List.getElem_cons_succ, List.setIfInBounds_toArray, List.set_cons_zero, List.set_cons_succ]
      refine wpAnyH_take (i := 0) (v := .agg #[.int .i64 N, .slice (some ⟨b, off, none⟩) n c0]) rfl (by kernel_rfl) (by kernel_rfl) (by kernel_rfl) (fun _ _ _ h => h) (Or.inl ⟨by rfl, fun w hSw => ?_⟩) (by assumption) ?_
      · have h0 : w.cell? ⟨W.heap.size, 0, none⟩ = some (.int .i64 N) := by simp [World.cell?, hSw.g]
        have h1 : w.cell? ⟨W.heap.size, 1, none⟩ = some (.slice (some ⟨b, off, none⟩) n c0) := by simp [World.cell?, hSw.g]
        go_simp
      simp only [Act.put, List.getElem_toArray, List.getElem_cons_zero, List.setIfInBounds_toArray, List.set_cons_zero, List.set_cons_succ]
      refine wpAnyH_take (i := 1) (v := .slice (some ⟨gc, 0, none⟩) c.length C) rfl (by kernel_rfl) (by kernel_rfl) (by kernel_rfl) (fun _ _ _ h => h) (Or.inl ⟨by rfl, fun w hSw => ?_⟩) (by assumption) ?_
      · have h0 := hSw.c.cell
        go_simp
      simp only [Act.put, List.getElem_toArray, List.getElem_cons_zero, List.getElem_cons_succ, List.setIfInBounds_toArray, List.set_cons_zero, List.set_cons_succ]
      refine wpAnyH_take (i := 5) (v := .pointer (some ⟨ga, 0, none⟩)) rfl (by kernel_rfl) (by kernel_rfl) (by kernel_rfl) (fun _ _ _ h => h) (Or.inl ⟨by rfl, fun w hSw => ?_⟩) (by assumption) ?_
      · have h0 := hSw.m.cell
        go_simp
      simp only [Act.put, List.getElem_toArray, List.getElem_cons_zero, List.getElem_cons_succ, List.setIfInBounds_toArray, List.set_cons_zero, List.set_cons_succ]
      refine wpAnyH_take (i := 6) (v := .func (.yield l) #[] #[]) rfl (by kernel_rfl) (by kernel_rfl) (by kernel_rfl) (fun _ _ _ h => h) (Or.inl ⟨by rfl, fun w hSw => ?_⟩) (by assumption) ?_
      · have h0 := hSw.y.cell
        go_simp
      simp only [Act.put, List.getElem_toArray, List.getElem_cons_zero, List.getElem_cons_succ, List.setIfInBounds_toArray, List.set_cons_zero, List.set_cons_succ]
      refine wpAnyH_ready (rs := [3]) (by kernel_rfl) (by simp) ?_
      refine AllReadyH.cons rfl (fun K hK => ?_) AllReadyH.nil
      go_simp
      refine hK.out _ _ ?_ (fun hHeld => ?_)
      · exact HFD.on (on_alloc _ _)
      clear hK K HFD
      refine wpAnyH_ready (rs := [4]) (by kernel_rfl) (by simp) ?_
      refine AllReadyH.cons rfl (fun K hK => ?_) AllReadyH.nil
      have hOA := (HO5.out.drewN (n := 1)).on (on_alloc (w5.drewN 1) (.cells #[.int .i64 f] 2))
      refine step_append_fits rfl (.tmp 41) (.tmp 43) 44 rfl n0 2 i0 1 Try.underlying44 Hi.out hy1 gc c.length C (intVals c) rfl (hOA.row rfl (by omega)) ⟨w5.heap.size, 0, none⟩ 1 1 [.int .i64 f] rfl rfl (cell_one_new _ _ _) (by simp [Value.oneCell']) (by have := HC.out; omega) ?_
      intro w7 hown7 hgr7
      have hgr7' : (w5.alloc (.cells #[.int .i64 f] 2)).grownBy w7 (some gc) := ⟨hgr7.os, hgr7.tape, hgr7.output, hgr7.size, hgr7.block⟩
      have HO7 := hid (OwnI.of_row (base := n0) (xs := c ++ [(f : Int)]) (by rw [intVals_append]; exact hown7) (by simp)).1
      have HK7 := hid (show KeptR n0 A gc ga w5 w7 from (KeptR.below (on_alloc _ _)).trans (KeptR.grown hgr7' (.inl rfl) (by omega)))
      have HJ7 := hid (HJ.out _ _ w7 (HJ.out _ _ _ HJ5.out (MvS.below (on_alloc _ _))) (MvS.grown hgr7' (.inl rfl) hgc))
      have HT7 := hid ((HT5.out.on (on_alloc _ _)).keep (hgr7'.block ga (by have := HT5.out.lt; simp; omega) (fun e => hne (Option.some.inj e).symm)))
      have HF7 := hid (HF5.out.kept (by omega) (by omega) (by omega) HK7.out.2)
      have hsz7 := hgr7'.size
      simp at hsz7
      refine hK.out _ _ ?_ (fun _ => ?_)
      · exact HF7.out
      clear hK K hOA hown7 hgr7 hgr7'
      refine wpAnyH_ready (rs := [7]) (by kernel_rfl) (by simp) ?_
      refine AllReadyH.cons rfl (fun K hK => ?_) AllReadyH.nil
      have h := HIH.out (c ++ [(f : Int)]) (markV ms V U) (pre ++ mtQ es (mtF N es r) V c ms (pre'.map fun x => x.1.1)) w7 (by have := HC.out; simp; omega) (by have h1 := markV_unm (N := N) (by omega) hVN hUN hVU HVf.out HMet.out; have := HM.out; omega) (HRd.out.keep ((HK7.out.1.same b hb (by omega)).trans (HK5.out.1.same b hb hbW))) HO7.out HT7.out HJ7.out (by
        have h1 := mtQ_le (es := es) (v := V) (c := c) (ms := ms) (mtF_le G.out r) (pre'.map fun x => x.1.1)
        rw [List.length_map] at h1
        have h2 : (arF es (V : Int)).length ≤ 3 := by
          have h3 := congrArg List.length (arF_onL es (V : Int))
          rw [List.length_map] at h3
          rw [h3]
          exact onL_le3 G.out (by omega)
        have h4 : pre'.length * 3 ^ r ≤ 2 * 3 ^ r := Nat.mul_le_mul_right _ (by omega)
        have h5 := HN.out
        rw [Nat.pow_succ] at h5
        rw [List.length_append]
        omega)
      rw [show (c ++ [(f : Int)]).length = c.length + 1 by simp] at h
      have HC7 := hid h
      clear h
      go_simp
      refine HC7.out.mono ?_
      rintro e' w8 (⟨rfl, hJ8, hO8, hT8, hk8⟩ | ⟨rfl, ⟨q, hq, hj8⟩, hk8⟩)
      · have HF8 := hid (HF7.out.kept (by omega) (by omega) (by omega) hk8.2)
        have HK8 := hid ((HK5.out.trans HK7.out).trans hk8)
        have HJ8 := hid hJ8
        have HO8 := hid hO8.front
        have HT8 := hid hT8
        have hz8 := hk8.2.1
        clear hJ8 hO8 hT8 hk8 HC7
        refine hK.out _ _ ?_ (fun _ => ?_)
        · exact HF8.out
        clear hK K
        refine wpAnyH_ready (rs := [8]) (by kernel_rfl) (by simp) ?_
        refine AllReadyH.cons rfl (fun K hK => ?_) AllReadyH.nil
        go_simp
        refine hK.out _ _ ?_ (fun _ => ?_)
        · exact HF8.out
        clear hK K
        refine wpAnyH_done (by kernel_rfl) ?_ _
        simp only [onlyN_normal]
        have hcm8 := HF8.out.m.cell
        have hzr8 := HF8.out.r.lt
        have hg18 : w8.cell? ⟨W.heap.size, 1, none⟩ = some (.slice (some ⟨b, off, none⟩) n c0) := by simp [World.cell?, HF8.out.g]
        have hk8e : ∀ a, w8.cell? ⟨b, a, none⟩ = W'.cell? ⟨b, a, none⟩ := fun a => World.cell?_of_block (w := W') (a := ⟨b, a, none⟩) (HK8.out.1.same b hb hbW)
        have hc1 := (hk8e _).trans hc1
        have hc2 := (hk8e _).trans hc2
        have hb8 : b < w8.heap.size := by omega
        clear hk8e
        gi_wp2
        refine region_tail_roundH 6 (by kernel_rfl) (by kernel_rfl) (by kernel_rfl) ?_
        simp only [List.take_succ_cons, List.take_zero, List.drop_succ_cons, List.drop_zero]
        repeat still_step
        refine wpStill_nil ?_
        gi_wp2_with fail
        refine ⟨trivial, ?_⟩
        refine (callsIn_wide.2 (iRemove_any ga X Y (markV ms V U) _ hX2 hY2 hXY (OwnV.keep (w' := World.drew _) HT8.out rfl))).mono ?_
        rw [HOFF.out]
        rintro e w9 ⟨rfl, ho9, hg9⟩
        have hg9' : w8.grownBy w9 (some ga) := ⟨hg9.os, hg9.tape, hg9.output, hg9.size, hg9.block⟩
        have HK9 := hid (HK8.out.trans (KeptR.grown (n0 := n0) (A := A) (gc := gc) (ga := ga) hg9' (.inr rfl) (by omega)))
        have HJ9 := hid (HJ.out _ _ w9 HJ8.out (MvS.grown hg9' (.inr rfl) hga))
        have HO9 := hid (HO8.out.keep (hg9'.block gc HO8.out.lt (fun e => hne (Option.some.inj e))))
        have HT9 := hid ho9
        have HF9 := hid (HS.out.f.kept (by omega) (by omega) (by omega) HK9.out.2)
        clear ho9 hg9 hg9'
        gi_wp2
        refine ⟨HK9.out.2.from (by omega) (by omega) (by omega), ⟨Kept.below HK9.out.1 (fun i h => h) (by omega), HK9.out.2.2 _ (by omega) HS.out.v.lt (by omega) (by omega) (small_box HS.out.v)⟩, ⟨?_, HO9.out, HT9.out, HF9.out, (HK9.out.2.2 _ (by omega) HS.out.v.lt (by omega) (by omega) (small_box HS.out.v)).trans HS.out.v, HS.out.k.trans HK9.out⟩⟩
        rw [List.map_append, List.map_cons, List.map_nil, mtQ_snoc, mtG_yes HUo.out HMet.out, ← List.append_assoc]
        exact HJ9.out
      · have HF8 := hid (HF7.out.kept (by omega) (by omega) (by omega) hk8)
        have HK8 := hid ((HK5.out.trans HK7.out).2.trans hk8)
        have HJ8 := hid hj8
        have HQ := hid hq
        have hz8 := hk8.1
        clear hj8 hq hk8 HC7
        refine hK.out _ _ ?_ (fun _ => ?_)
        · exact HF8.out
        clear hK K
        refine wpAnyH_ready (rs := [8]) (by kernel_rfl) (by simp) ?_
        refine AllReadyH.cons rfl (fun K hK => ?_) AllReadyH.nil
        go_simp
        refine hK.out _ _ ?_ (fun _ => ?_)
        · exact HF8.out
        clear hK K
        refine wpAnyH_done (by kernel_rfl) ?_ _
        simp only [onlyN_normal]
        have hcr8 := HF8.out.r.cell
        have hfr8 := HF8.out.r.frozen
        have hzr8 := HF8.out.r.lt
        gi_wp2
        refine ⟨(HK8.out.from (by omega) (by omega) (by omega)).trans ((KeepsOthers.setCell _ _ _).from _), ⟨rfl, ⟨_, ?_, HJx.out _ _ _ (by rw [List.append_assoc] at HJ8; exact HJ8.out) (MvS.flag (by omega) HF8.out.r)⟩, Boxed.set _ HF8.out.r, (((KeptR.below HB1.out).trans HS.out.k).2.trans HK8.out).cell (g := W.heap.size + 1 + 1 + 1 + 1) rfl (by omega)⟩⟩
        rw [List.map_append, List.map_cons, List.map_nil, mtQ_snoc, mtG_yes HUo.out HMet.out]
        exact List.prefix_append_right_inj _ |>.2 HQ.out
    · have HMet := hid hmet
      rw [hmet] at hcU
      clear hmet
      gi_wp2
      refine ⟨⟨Nat.le_refl _, fun k o _ hk _ => hk⟩, ⟨Below.refl _ _, rfl⟩, ⟨?_, HS.out.o, HS.out.t, HS.out.f, HS.out.v, HS.out.k⟩⟩
      rw [List.map_append, List.map_cons, List.map_nil, mtQ_snoc, mtG_no HUo.out HMet.out, List.append_nil]
      exact HS.out.j
  case done =>
    rintro D ys W2 hD hys hS hK
    have hr3 := hS.f.r
    have hcr3 := hr3.cell
    have hfr3 := hr3.frozen
    have hzr3 := hr3.lt
    have HAll := hid (show mtQ es (mtF N es r) V c ms (ys.map fun x => x.1.1) = mtF N es (r + 1) c ms by
      have h := congrArg (List.map Prod.fst) hys
      rw [List.map_map, arF_onL] at h
      rw [mtF_succ, HV.out]
      unfold mtQ
      rw [← h]
      rfl)
    have HS := hid hS
    have HR3 := hid (Boxed.set (.bool true) hr3)
    have hK2 : (W2.setCell ⟨W.heap.size + 1 + 1 + 1 + 1, 0, none⟩ (.bool true)).heap[D]? = some (.deferred (some [])) := (heap_setCell_other _ _ D _ (by show D ≠ W.heap.size + 1 + 1 + 1 + 1; omega)).trans hK
    have HK2 := hid hK2
    have HMv := hid (MvS.flag (A := A) (gc := gc) (ga := ga) (v := .bool true) (by omega) hr3)
    clear hS hys hr3 hK
    gi_wp2
    refine ⟨by simp, .inl ⟨_, _, rfl, run_takeDeferred HK2.out, ?_⟩⟩
    refine ⟨_, results_flag rfl _ _ (W.heap.size + 1 + 1 + 1 + 1) true rfl (HR3.out.kept (grownBy_putObj' _ D (.deferred none)) (fun e => by have := Option.some.inj e; omega)), ?_⟩
    refine .inl ⟨rfl, ?_, ?_, ?_, ?_⟩
    · rw [← HAll.out]
      exact HJ.out _ _ _ (HJ.out _ _ _ HS.out.j HMv.out) (MvS.put _ (by omega) HK2.out rfl)
    · exact (HS.out.o.far (by show gc ≠ W.heap.size + 1 + 1 + 1 + 1; omega) _).keep (World.putObj_heap_other (by omega))
    · exact (HS.out.t.far (by show ga ≠ W.heap.size + 1 + 1 + 1 + 1; omega) _).keep (World.putObj_heap_other (by omega))
    · exact ((((KeptR.below HB1.out).trans HS.out.k).cell (g := W.heap.size + 1 + 1 + 1 + 1) rfl (by omega) (by omega)).put _ (by omega) (by omega))
  case stop =>
    rintro D c' pre' W2 hD hpre hX hK
    obtain rfl := hX.cc
    obtain ⟨k, hk, hpk⟩ := hpre
    obtain ⟨q, hq, hjq⟩ := hX.j
    have HQ := hid (show q <+: mtF N es (r + 1) c ms from hq.trans (by
      have h := arU_pre es V k es.length (by rw [Hn.out]; exact hk)
      rw [← hpk, List.map_map] at h
      rw [mtF_succ, HV.out]
      have h2 := mtQ_pre (es := es) (F := mtF N es r) (v := V) (c := c) (ms := ms) h
      have h3 := arF_onL es V
      unfold arF at h3
      rw [h3] at h2
      exact h2))
    have HX := hid hX
    have HJq := hid (HJx.out _ _ _ hjq (MvS.put (.deferred none) (by omega) hK rfl))
    have HK := hid hK
    clear hX hq hjq hpk hK
    gi_wp2
    refine ⟨by simp, .inl ⟨_, _, rfl, run_takeDeferred HK.out, ?_⟩⟩
    refine ⟨_, results_flag rfl _ _ (W.heap.size + 1 + 1 + 1 + 1) false rfl (HX.out.r.kept (grownBy_putObj' _ D (.deferred none)) (fun e => by have := Option.some.inj e; omega)), ?_⟩
    exact .inr ⟨rfl, ⟨q, HQ.out, HJq.out⟩, HX.out.k.put _ (by omega)⟩

/-- The contract of the search. -/
theorem goM_any (n0 A gc ga l Nn b off n c0 N H C : Nat) (es : List (Int × Int)) (g : IsG N es) (hn : es.length = n) (hb : b < n0) (hA0 : n0 ≤ A) (hgc : A ≤ gc) (hga : A ≤ ga) (hne : gc ≠ ga) (hHC : H ≤ C) (J Jx : List (List Int) → World → Prop)
    (hJ : ∀ st X Y, J st X → MvS A gc ga X Y → J st Y) (hJx : ∀ st X Y, Jx st X → MvS A gc ga X Y → Jx st Y)
    (hY : ∀ m pre x W, J pre W → OwnI W gc C x → x.length = H → ga < W.heap.size → pre.length < Nn → YieldAt Fence.wide m Try.prog l #[.slice (some ⟨gc, 0, none⟩) H C] W fun e W' => (e = .returned (.bool true) ∧ J (pre ++ [x]) W' ∧ KeptF n0 A W W') ∨ (e = .returned (.bool false) ∧ Jx (pre ++ [x]) W' ∧ KeptX A W W')) :
    ∀ (r : Nat) (c : List Int) (ms : List Bool) (pre : List (List Int)) (W : World), c.length + r = H → unmF ms N = 2 * r → ReadsE W b off es → OwnI W gc C c → OwnV W ga ms → J pre W → pre.length + 3 ^ r ≤ Nn →
      Calls Try.prog 148 #[.agg #[.int .i64 N, .slice (some ⟨b, off, none⟩) n c0], .slice (some ⟨gc, 0, none⟩) c.length C, .pointer (some ⟨ga, 0, none⟩), .func (.yield l) #[] #[]] W fun e W' =>
        (e = .returned (.bool true) ∧ J (pre ++ mtF N es r c ms) W' ∧ OwnI W' gc C c ∧ OwnV W' ga ms ∧ KeptR n0 A gc ga W W') ∨ (e = .returned (.bool false) ∧ (∃ q, q <+: mtF N es r c ms ∧ Jx (pre ++ q) W') ∧ KeptY A gc ga W W')
  | 0, c, ms, pre, W, hc, hm, _, hO, hT, h0, hN => by
    have hcH : c.length = H := by omega
    rw [hcH]
    refine (goM_leaf n0 A gc ga l Nn b off n c0 N H C es g hA0 hgc hga J Jx hJ hJx hY c ms pre W hcH (by omega) hO hT h0 (by rw [Nat.pow_zero] at hN; omega)).mono ?_
    rintro e W' (h | ⟨h1, h2, h3⟩)
    · exact .inl h
    · exact .inr ⟨h1, ⟨[c], List.prefix_refl _, h2⟩, h3⟩
  | r + 1, c, ms, pre, W, hc, hm, hr, hO, hT, h0, hN =>
    goM_step n0 A gc ga l Nn b off n c0 N H C r es g hn hb hA0 hgc hga hne J Jx hJ hJx (fun c ms pre W h1 h2 h3 h4 h5 h6 h7 => goM_any n0 A gc ga l Nn b off n c0 N H C es g hn hb hA0 hgc hga hne hHC J Jx hJ hJx hY r c ms pre W h1 h2 h3 h4 h5 h6 h7) c ms pre W hc hHC hm hr hO hT h0 hN

end Go.Proofs.Ythacpadadccioaa
