/- All cycles that go on from a way of edges, in the program: cyclesFrom. -/
import Derived.Test.YtfdlhdgmbjdhbaaAcA
import Derived.Test.YtfdlhdgmbjdhbaaRounds
import Derived.Test.YtfdlhdgmbjdhbaaRowN
import Derived.Test.YtfdlhdgmbjdhbaaRowsN
import Derived.Test.YtfdlhdgmbjdhbaaRndH
import Derived.Test.YtfdlhdgmbjdhbaaSortI
import Derived.Deep.MidRow
import Derived.Deep.AppendSrc
import Derived.Deep.RegionLawGrows
import Derived.Maps.AppendAt
import Derived.BigQuiet
namespace Go.Proofs.Ytfdlhdgmbjdhbaa
open Go.RowKit Go.Shelf

attribute [local go_sem] Oper.semAt_some

/- Rows of numbers in blocks of their own: block, room, what the row holds. -/
abbrev AcP := Nat × Nat × List Int
def acV (p : AcP) : Value := .slice (some ⟨p.1, 0, none⟩) p.2.2.length p.2.1
structure AcAt (w : World) (B : Nat) (ps : List AcP) : Prop where
  own : ∀ p, p ∈ ps → B ≤ p.1 ∧ OwnI w p.1 p.2.1 p.2.2
  apart : (ps.map Prod.fst).Nodup
theorem AcAt.nil (w : World) (B : Nat) : AcAt w B [] := ⟨fun p h => (by cases h), by simp⟩
theorem AcAt.same {w w' : World} {B : Nat} {ps : List AcP} (h : AcAt w B ps) (hk : ∀ k cur fr, B ≤ k → w.heap[k]? = some (.cells cur 2 fr) → w'.heap[k]? = w.heap[k]?) : AcAt w' B ps :=
  ⟨fun p hp => ⟨(h.own p hp).1, (h.own p hp).2.keep (by obtain ⟨cur, hc, _⟩ := (h.own p hp).2; exact hk _ _ _ (h.own p hp).1 hc)⟩, h.apart⟩
theorem AcAt.less {w : World} {B B' : Nat} {ps : List AcP} (h : AcAt w B ps) (hB : B' ≤ B) : AcAt w B' ps := ⟨fun p hp => ⟨Nat.le_trans hB (h.own p hp).1, (h.own p hp).2⟩, h.apart⟩
theorem AcAt.app {w : World} {B B' : Nat} {ps qs : List AcP} (h : AcAt w B ps) (k : AcAt w B' qs) (hB : B ≤ B') (hlt : ∀ p, p ∈ ps → p.1 < B') : AcAt w B (ps ++ qs) := by
  refine ⟨fun p hp => ?_, ?_⟩
  · rcases List.mem_append.1 hp with hp | hp
    · exact h.own p hp
    · exact ⟨Nat.le_trans hB (k.own p hp).1, (k.own p hp).2⟩
  · rw [List.map_append]
    refine List.nodup_append.2 ⟨h.apart, k.apart, fun a ha b hb e => ?_⟩
    obtain ⟨p, hp, rfl⟩ := List.mem_map.1 ha
    obtain ⟨q, hq, rfl⟩ := List.mem_map.1 hb
    have := hlt p hp
    have := (k.own q hq).1
    omega
theorem AcAt.one {w : World} {B g cap : Nat} {xs : List Int} (h : OwnI w g cap xs) (hB : B ≤ g) : AcAt w B [(g, cap, xs)] := ⟨fun p hp => by rw [List.mem_singleton.1 hp]; exact ⟨hB, h⟩, by simp⟩

theorem OwnI.headA {w : World} {g cap : Nat} {xs ys : List Int} (h : OwnI w g cap (xs ++ ys)) : OwnI w g cap xs := by
  obtain ⟨cur, hc, hs, hl, hm, r⟩ := h
  rw [List.length_append] at hl
  refine ⟨cur, hc, hs, by omega, hm, fun i hi => ?_⟩
  rw [r i (by rw [List.length_append]; omega)]
  unfold eI
  rw [List.getD_eq_getElem?_getD, List.getD_eq_getElem?_getD, List.getElem?_append_left hi]

/-- An edge behind a way, as one step of a region that draws: in the way's own block, or in a new one. -/
theorem step_append_way {ops : Array Oper} {o : Oper} {a : Act} {w : World} {K : Act → World → Prop} {Q : Exit → Act → World → Prop} {E : Prop}
    (hg : o.guard = none) (s x : Operand) (hop : o.op = Op.call { callee := Callee.builtin Builtin.append, args := #[s, x], argTypes := #[41, 41] })
    (i : TypeInfo) (h2 : Try.prog.info? 2 = some i) (h3 : i.zero = some (.int .i64 0)) (h4 : i.size = 1) (h5 : i.bytes = 8) {g c p : Nat} {xs : List Int} {f : Int} (hl : xs.length = p)
    (hs : a.eval s = .slice (some ⟨g, 0, none⟩) p c) (hO : OwnI w g c xs) (hp : p ≤ 1000) {ad : Addr} (hx : a.eval x = .slice (some ad) 1 1) (hc : ∀ j u, [Value.int .i64 f][j]? = some u → w.cell? (ad.add j) = some u)
    (hK : ∀ gg c' w', OwnI w' gg c' (xs ++ [f]) → OwnI w' g c xs → w.grownBy w' (some g) → (gg = g ∧ c' = c ∨ w.heap.size ≤ gg) → K (a.put o.dst (.slice (some ⟨gg, 0, none⟩) (p + 1) c')) w') :
    if Region.wanted o (yielded ops a.tmps) = true then Oper.wp Try.prog o a w K Q else E := by
  have hw : Region.wanted o (yielded ops a.tmps) = true := by simp [Region.wanted, hg]
  by_cases hr : p + 1 ≤ c
  · rw [if_pos hw]
    obtain ⟨w', hrun, r1, r2⟩ := run_append_fits (P := Try.prog) w 0 41 o.type 2 i 1 Try.underlying41 h2 h4 g p c (intVals xs) (hO.row hl (Nat.zero_le _)) ad 1 1 [.int .i64 f] rfl hc (by simp [Value.oneCell']) hr
    have ho : OwnI w' g c (xs ++ [f]) := (OwnI.of_row (base := 0) (n := p + 1) (by rw [intVals_append]; exact r1) (by rw [List.length_append, hl]; rfl)).1
    unfold Oper.wp
    simp [execOp, hop, resolve, invoke, builtin, hs, hx, hrun, Result.andThen]
    exact hK _ _ _ ho ho.headA r2 (.inl ⟨rfl, rfl⟩)
  · refine step_append_grows hg s x 41 hop 2 i (.int .i64 0) 1 8 Try.underlying41 h2 h3 h4 h5 rfl (by decide) (some ⟨g, 0, none⟩) p c (intVals xs) hs (fun h => (by cases h)) (by simp [intVals, hl]) (fun b hb j u hj => ?_) ad 1 1 [.int .i64 f] hx rfl hc (by simp [Value.oneCell']) (by omega) (by unfold maxLen; omega) (by omega) (fun v' w' r1 r2 => ?_)
    · cases hb
      have hjl : j < xs.length := by
        have := (List.getElem?_eq_some_iff.1 hj).1
        simpa [intVals] using this
      have hu : u = .int .i64 (eI xs j) := by
        unfold intVals at hj
        rw [List.getElem?_map, List.getElem?_eq_getElem hjl] at hj
        rw [eI_lt hjl]
        exact (Option.some.inj hj).symm
      rw [hu, Addr.add_lit]
      exact hO.reads j hjl
    · rcases r1.2 with ⟨_, h0⟩ | ⟨gg, c', cur, rfl, hb, _⟩
      · omega
      · have ho := OwnI.of_row (base := w.heap.size) (n := p + 1) (xs := xs ++ [f]) (by rw [intVals_append]; exact r1) (by rw [List.length_append, hl]; rfl)
        exact hK _ _ _ ho.1 (hO.keep (r2.block g hO.lt (by simp))) ⟨r2.os, r2.tape, r2.output, r2.size, fun i hi _ => r2.block i hi (by simp)⟩ (.inr ho.2)

/-- A whole array is loaded, in a region that draws. -/
theorem yieldsA_load {ops : Array Oper} {S : World → Prop} {op : Oper} {a : Act} (hw : Region.wanted op (yielded ops a.tmps) = true) (ty : TypeId) (x : Operand) (ho : op.op = .load ty x)
    (b : Nat) (hx : a.eval x = .pointer (some ⟨b, 0, none⟩)) (As : Array Value) (d : TypeDesc) (hS : ∀ w, S w → ∀ j, w.cell? ⟨b, j, none⟩ = As[j]?)
    (hu : Try.prog.underlying ty = some d) (hd : d.isRow = true) (hi : (Try.prog.info? ty).map (·.size) = some As.size) : YieldsIf Try.prog ops S op (.agg As) a := by
  have h := yieldsIf_load_mid (P := Try.prog) (S := S) hw ty x ho b 0 hx As.toList d (fun w hw j v hj => by rw [Nat.zero_add, hS w hw j, ← Array.getElem?_toList]; exact hj) hu hd (by rw [Array.length_toList]; exact hi)
  rwa [Array.toArray_toList] at h

/-- What a call is given. -/
structure AcPre (N b off E A r : Nat) (es : List (Int × Int)) (way : List Int) (v : Int) (M : List Int) (As : Array Value) (gw cap : Nat) (w : World) : Prop where
  rd : ReadsE w b off es
  o : OwnI w gw cap way
  hA : A ≤ gw
  len : way.length = M.length + 1
  cnt : M.length + r = N
  fst : eI way 0 = (E : Int)
  vr : 0 ≤ v ∧ v < (N : Int)
  nd : (v :: M).Nodup
  mr : ∀ x, x ∈ M → 0 ≤ x ∧ x < (N : Int)
  sz : As.size = 20
  ar : ∀ i : Nat, i < 20 → As[i]? = some (.bool (decide ((i : Int) ∈ M)))
/-- What it hands back. -/
def AcPost (es : List (Int × Int)) (E r : Nat) (way : List Int) (v : Int) (M : List Int) (gw cap : Nat) (w : World) (e : Ending) (w' : World) : Prop :=
  ∃ (q : Option Addr) (c : Nat) (ps : List AcP), e = .returned (.slice q ps.length c) ∧ w'.ownsRow w.heap.size 41 1 (.slice q ps.length c) ps.length (ps.map acV) ∧ ps.map (fun p => p.2.2) = acF es E r way v M ∧ AcAt w' w.heap.size ps ∧ w.grownBy w' (some gw) ∧ OwnI w' gw cap way

/-- The boxes of a call, from block B on. -/
structure FrA (W : World) (B : Nat) (s : Int) (b off n c gw l cap : Nat) (As : Array Value) : Prop where
  g : W.heap[B]? = some (.cells #[.int .i64 s, .slice (some ⟨b, off, none⟩) n c] 28 (0, 0))
  y : Boxed W (B + 1) 41 (.slice (some ⟨gw, 0, none⟩) l cap)
  m : W.heap[B + 1 + 1]? = some (.cells As 72 (0, 0))
section
variable {W W' : World} {B b off n c gw l cap : Nat} {s : Int} {As : Array Value}
theorem FrA.same (h : FrA W B s b off n c gw l cap As) (hk : ∀ i, B ≤ i → i ≤ B + 2 → i < W.heap.size → W'.heap[i]? = W.heap[i]?) : FrA W' B s b off n c gw l cap As := by
  have l1 := (Array.getElem?_eq_some_iff.1 h.g).1
  have l2 := h.y.lt
  have l3 := (Array.getElem?_eq_some_iff.1 h.m).1
  exact ⟨(hk _ (by omega) (by omega) l1).trans h.g, (hk _ (by omega) (by omega) l2).trans h.y, (hk _ (by omega) (by omega) l3).trans h.m⟩
theorem FrA.on (h : FrA W B s b off n c gw l cap As) (hb : Below W.heap.size W W') : FrA W' B s b off n c gw l cap As := h.same fun i _ _ hi => hb.block i hi
theorem FrA.lt (h : FrA W B s b off n c gw l cap As) : B + 1 + 1 < W.heap.size := (Array.getElem?_eq_some_iff.1 h.m).1
theorem FrA.g0 (h : FrA W B s b off n c gw l cap As) : W.cell? ⟨B, 0, none⟩ = some (.int .i64 s) := (cell_of_row W B 0 _ _ _ h.g).trans rfl
theorem FrA.g1 (h : FrA W B s b off n c gw l cap As) : W.cell? ⟨B, 1, none⟩ = some (.slice (some ⟨b, off, none⟩) n c) := (cell_of_row W B 1 _ _ _ h.g).trans rfl
theorem FrA.mc (h : FrA W B s b off n c gw l cap As) (i : Nat) : W.cell? ⟨B + 1 + 1, i, none⟩ = As[i]? := cell_of_row W (B + 1 + 1) i _ _ _ h.m
theorem FrA.mf (h : FrA W B s b off n c gw l cap As) (i : Nat) : W.frozen? ⟨B + 1 + 1, i, none⟩ = false := frozen_of_row W (B + 1 + 1) i _ _ h.m
end
theorem frA_new (w : World) (s : Int) (b off n c gw l cap : Nat) (As : Array Value) :
    FrA (((w.alloc (.cells #[.int .i64 s, .slice (some ⟨b, off, none⟩) n c] 28)).alloc (.cells #[.slice (some ⟨gw, 0, none⟩) l cap] 41)).alloc (.cells As 72)) w.heap.size s b off n c gw l cap As := by
  refine ⟨?_, (boxedN_at _ _ _ _ (by simp)).alloc _, ?_⟩
  · exact (Below.heap_alloc _ _ _ (by simp <;> omega)).trans ((Below.heap_alloc _ _ _ (by simp)).trans (World.alloc_heap_new w _))
  · have h := World.alloc_heap_new ((w.alloc (.cells #[.int .i64 s, .slice (some ⟨b, off, none⟩) n c] 28)).alloc (.cells #[.slice (some ⟨gw, 0, none⟩) l cap] 41)) (.cells As 72)
    simpa only [World.size_alloc] using h

theorem own_oneA (w : World) (B g : Nat) (x : Value) (hB : B ≤ w.heap.size) (hg : g = w.heap.size) : (w.alloc (.cells #[x] 41)).ownsRow B 41 1 (.slice (some ⟨g, 0, none⟩) 1 1) 1 [x] := by
  subst hg
  exact ⟨rfl, .inr ⟨_, 1, #[x], rfl, hB, heap_alloc_new _ _, Nat.le_refl _, by unfold maxLen; omega, rfl, rfl⟩⟩
theorem grownA {a b : World} (h : Below a.heap.size a b) (row : Option Nat) : a.grownBy b row := ⟨h.os, h.tape, h.output, h.size, fun j hj _ => h.block j hj⟩

set_option maxRecDepth 100000 in
set_option maxHeartbeats 8000000 in
/-- The way has come back to where it began. -/
theorem ac_leaf (N b off n c E A r : Nat) (es : List (Int × Int)) (g : IsG N es) (hn : es.length = n) (hE : E < n) (way : List Int) (v : Int) (M : List Int) (As : Array Value) (gw cap : Nat) (w : World) (hp : AcPre N b off E A (r + 1) es way v M As gw cap w) (hv : v = eA es E) :
    Calls Try.prog 45 #[.agg #[.int .i64 N, .slice (some ⟨b, off, none⟩) n c], .slice (some ⟨gw, 0, none⟩) way.length cap, .int .i64 v, .agg As] w (AcPost es E (r + 1) way v M gw cap w) := by
  have hn30 : n ≤ 30 := by have := isG_len g; omega
  have hN20 : N ≤ 20 := by have := g.1.1.2.1; omega
  have HP := hid hp
  have Hn := hid hn
  obtain ⟨l, hl⟩ : ∃ l, way.length = l := ⟨_, rfl⟩
  have hl1 : 0 < l := by have := hp.len; omega
  have hl20 : l ≤ 21 := by have := hp.len; have := hp.cnt; omega
  have hEn : (E : Int) < (n : Int) := by omega
  obtain ⟨T, hT⟩ : ∃ T, eA es E = T := ⟨_, rfl⟩
  have hvT : (v == T) = true := by rw [hv, hT]; simp
  have HL := hid hl
  have HE := hid (And.intro hE hT)
  have HV := hid hv
  obtain ⟨w1, hw1⟩ : ∃ w1, w1 = ((w.alloc (.cells #[.int .i64 N, .slice (some ⟨b, off, none⟩) n c] 28)).alloc (.cells #[.slice (some ⟨gw, 0, none⟩) l cap] 41)).alloc (.cells As 72) := ⟨_, rfl⟩
  have HB1 := hid (show Below w.heap.size w w1 by rw [hw1]; exact bfrom (bfrom (on_alloc _ _) (on_alloc _ _)) (on_alloc _ _))
  have HF1 := hid (show FrA w1 w.heap.size N b off n c gw l cap As by rw [hw1]; exact frA_new w N b off n c gw l cap As)
  rw [hl]
  clear hp hn hl hT hv g hE
  go_enter Try.func45, Try.ntmps45
  go_upto_region 1 with fail
  rw [← hw1]
  clear hw1
  have hg0 := HF1.out.g0
  have hg1 := HF1.out.g1
  have hy := HF1.out.y.cell
  have hlz := HF1.out.lt
  have HO1 := hid (HP.out.o.on HB1.out)
  have hgz := HO1.out.lt
  have hrd := HP.out.rd.on HB1.out
  have hc0 := HO1.out.reads 0 (by rw [HL.out]; exact hl1)
  rw [HP.out.fst, Nat.zero_add] at hc0
  have hcT := (hrd E (by have := HE.out.1; have := Hn.out; omega)).1
  rw [HE.out.2] at hcT
  have hbz := World.block_lt_of_cell? w1 _ hcT
  dsimp only at hbz
  clear hrd
  go_quiet (fail)
  obtain ⟨w2, hw2⟩ : ∃ w2, w2 = w1.drewN nq := ⟨_, rfl⟩
  have HB2 := hid (show Below w.heap.size w w2 by rw [hw2]; exact bdn.mpr HB1.out)
  have HF2 := hid (show FrA w2 w.heap.size N b off n c gw l cap As by rw [hw2]; exact ⟨HF1.out.g, HF1.out.y, HF1.out.m⟩)
  rw [← hw2]
  clear hw2 hg0 hg1 hy hlz hgz hc0 hcT hbz
  have hy := HF2.out.y.cell
  have hlz := HF2.out.lt
  go_wp2_with fail
  refine (cloneN_row gw 0 l cap way _ HL.out (by omega) (HP.out.o.on HB2.out).reads).mono ?_
  rintro e' w3 ⟨q3, cap3, rfl, hf3, hb3⟩
  obtain ⟨g3, rfl, hg3, ho3⟩ := fresh_some hf3 hl1
  have HB3 := hid (bfrom HB2.out hb3)
  have HO3 := hid ho3
  have hzz := HB2.out.size
  clear hf3 hb3 ho3 hy hlz
  go_wp2_with fail
  refine (sortI_any g3 cap3 l way _ HO3.out HL.out (by omega)).mono ?_
  rintro e' w4 ⟨rfl, ho4, hgr4⟩
  have HO4 := hid ho4
  have HB4 := hid (HB3.out.grown hgr4 HB3.out.size (fun j hj => by have := Option.some.inj hj; omega))
  clear ho4 hgr4
  go_wp2
  go_ret
  have hz4 := HB4.out.size
  have hB5 := bfrom HB4.out (on_alloc w4 (.cells #[.slice (some ⟨g3, 0, none⟩) l cap3] 41))
  have hls : (srtA way).length = l := by unfold srtA; rw [List.length_mergeSort]; exact HL.out
  refine ⟨some ⟨w4.heap.size, 0, none⟩, 1, [(g3, cap3, srtA way)], rfl, ?_, ?_, AcAt.one (HO4.out.alloc _) (by omega), grownA hB5 _, HP.out.o.on hB5⟩
  · have h := own_oneA w4 w.heap.size w4.heap.size (.slice (some ⟨g3, 0, none⟩) l cap3) hz4 rfl
    show World.ownsRow _ _ _ _ _ _ [acV (g3, cap3, srtA way)]
    unfold acV
    dsimp only
    rw [hls]
    exact h
  · rw [acF_end HV.out]
    rfl


theorem acI_three {N : Nat} {es : List (Int × Int)} (g : IsG N es) : LeThree es := fun v => by
  by_cases hv : 0 ≤ v ∧ v < (N : Int)
  · have h := atF_three g hv.1 hv.2
    rw [onL_at, List.length_map] at h
    omega
  · have h0 : onL es v = [] := by
      unfold onL
      rw [List.filter_eq_nil_iff]
      intro i hi h
      have hi := List.mem_range.1 hi
      have h2 : 0 ≤ eA es i ∧ eA es i < (N : Int) ∧ 0 ≤ eB es i ∧ eB es i < (N : Int) ∧ eA es i ≠ eB es i := g.1.2 i hi
      unfold onE at h
      have h : eA es i = v ∨ eB es i = v := by simpa using h
      exact hv (by omega)
    rw [h0]
    exact Nat.zero_le _
theorem row_cellA {w : World} {B k c : Nat} {q : Option Addr} {xs : List Value} (h : w.ownsRow B 41 1 (.slice q k c) k xs) (hk : 0 < k) : ∃ g, q = some ⟨g, 0, none⟩ ∧ B ≤ g ∧ g < w.heap.size ∧ ∀ j u, xs[j]? = some u → w.cell? ((⟨g, 0, none⟩ : Addr).add j) = some u := by
  rcases h.2 with ⟨_, h0⟩ | ⟨g, c', cur, hv, hb, hg, hn, hm, hs, ht⟩
  · omega
  · injection hv with v1 v2 v3
    subst v1
    refine ⟨g, rfl, hb, (Array.getElem?_eq_some_iff.1 hg).1, fun j u hj => ?_⟩
    rw [Addr.add_lit, Nat.zero_add, cell_of_row w g j cur _ _ hg]
    rw [← ht, List.getElem?_take] at hj
    split at hj
    · rw [← Array.getElem?_toList]
      exact hj
    · cases hj

theorem run_append_nilA (w : World) (ty : TypeId) (q1 : Option Addr) (k1 c1 c2 : Nat) (hle : k1 ≤ c1) : (Builtin.append_ #[35, 35] ty #[.slice q1 k1 c1, .slice none 0 c2]).run Try.prog w = .ok (.slice q1 k1 c1) w := by
  obtain ⟨i, hi, _, _, _⟩ := info_parts infoSlN
  have hs := Src.ofNil (P := Try.prog) (w := w) (size := i.size) Try.underlying35 c2
  cases q1 <;> simp [Builtin.append_, run_underlying Try.underlying35, sizeOf, typeInfo, hi, hs.len, hle, hs.cells, storeCells]
theorem row_capA {w : World} {B k c : Nat} {q : Option Addr} {xs : List Value} (h : w.ownsRow B 41 1 (.slice q k c) k xs) : k ≤ c ∧ (q = none ∨ ∃ g, q = some ⟨g, 0, none⟩) := by
  rcases h.2 with ⟨hv, h0⟩ | ⟨g, c', cur, hv, hb, hg, hn, r⟩
  · injection hv with v1 v2 v3
    exact ⟨by omega, .inl v1⟩
  · injection hv with v1 v2 v3
    exact ⟨by omega, .inr ⟨g, v1⟩⟩

/-- Rows behind rows, as one step of a region that draws. -/
theorem step_append_rows {ops : Array Oper} {o : Oper} {a : Act} {w : World} {K : Act → World → Prop} {Q : Exit → Act → World → Prop} {E : Prop}
    (hg : o.guard = none) (s x : Operand) (hop : o.op = Op.call { callee := Callee.builtin Builtin.append, args := #[s, x], argTypes := #[35, 35] })
    {B B2 k1 c1 k2 c2 : Nat} {q1 q2 : Option Addr} {ps qs : List AcP} (hs : a.eval s = .slice q1 k1 c1) (hO : w.ownsRow B 41 1 (.slice q1 k1 c1) k1 (ps.map acV)) (hx : a.eval x = .slice q2 k2 c2) (hX : w.ownsRow B2 41 1 (.slice q2 k2 c2) k2 (qs.map acV))
    (hb : B ≤ w.heap.size) (h1 : k1 ≤ 20000000000) (h2 : k2 ≤ 20000000000)
    (hK : ∀ q3 c3 w', w'.ownsRow B 41 1 (.slice q3 (k1 + k2) c3) (k1 + k2) ((ps ++ qs).map acV) → w.grownBy w' (Value.slice q1 k1 c1).ownBlock → K (a.put o.dst (.slice q3 (k1 + k2) c3)) w') :
    if Region.wanted o (yielded ops a.tmps) = true then Oper.wp Try.prog o a w K Q else E := by
  have hw : Region.wanted o (yielded ops a.tmps) = true := by simp [Region.wanted, hg]
  obtain ⟨i, hi, hz0, hz1, hz2⟩ := info_parts infoSlN
  rw [if_pos hw]
  by_cases hk : k2 = 0
  · subst hk
    have hq : qs = [] := by
      have h := hX.1
      rw [List.length_map] at h
      exact List.eq_nil_of_length_eq_zero (by omega)
    subst hq
    rcases (row_capA hX).2 with rfl | ⟨g2, rfl⟩
    · have hrun := run_append_nilA w o.type q1 k1 c1 c2 (row_capA hO).1
      unfold Oper.wp
      simp [execOp, hop, resolve, invoke, builtin, hs, hx, hrun, Result.andThen]
      exact hK q1 c1 w (by rw [List.append_nil]; exact hO) ⟨rfl, rfl, rfl, Nat.le_refl _, fun _ _ _ => rfl⟩
    · obtain ⟨v', w', hrun, r1, r2, _⟩ := run_append_own (P := Try.prog) w B 35 o.type 41 i _ 1 24 Try.underlying35 hi hz0 hz1 hz2 rfl (by decide) (.slice q1 k1 c1) k1 (ps.map acV) hO ⟨g2, 0, none⟩ 0 c2 [] rfl (fun j u h => by simp at h) (fun u hu => by cases hu) (by unfold maxLen; omega) (by omega) hb
      obtain ⟨q3, c3, rfl⟩ := row_formN r1
      unfold Oper.wp
      simp [execOp, hop, resolve, invoke, builtin, hs, hx, hrun, Result.andThen]
      exact hK q3 c3 w' (by rw [List.append_nil] at r1 ⊢; exact r1) r2
  · obtain ⟨g2, rfl, _, _, hc⟩ := row_cellA hX (by omega)
    obtain ⟨v', w', hrun, r1, r2, _⟩ := run_append_own (P := Try.prog) w B 35 o.type 41 i _ 1 24 Try.underlying35 hi hz0 hz1 hz2 rfl (by decide) (.slice q1 k1 c1) k1 (ps.map acV) hO ⟨g2, 0, none⟩ k2 c2 (qs.map acV) hX.1 hc (fun u hu => by obtain ⟨p, _, rfl⟩ := List.mem_map.1 hu; rfl) (by unfold maxLen; omega) (by omega) hb
    obtain ⟨q3, c3, rfl⟩ := row_formN r1
    unfold Oper.wp
    simp [execOp, hop, resolve, invoke, builtin, hs, hx, hrun, Result.andThen]
    exact hK q3 c3 w' (by rw [List.map_append]; exact r1) r2

/-- What lies there in the range over the edges at a vertex. -/
structure StA (w : World) (N b off n c gw l cap Bc Bv : Nat) (As : Array Value) (es : List (Int × Int)) (E r : Nat) (way : List Int) (v : Int) (M : List Int) (L : List (ArS es v)) (W : World) : Prop where
  st : ∃ (q : Option Addr) (k : Nat) (ps : List AcP), Boxed W Bc 35 (.slice q ps.length k) ∧ W.ownsRow (Bc + 1) 41 1 (.slice q ps.length k) ps.length (ps.map acV) ∧ ps.map (fun p => p.2.2) = acU es E r way v M (L.map fun x => x.1.1) ∧ AcAt W (Bc + 1) ps
  o : OwnI W gw cap way
  f : FrA W w.heap.size N b off n c gw l cap As
  bv : Boxed W Bv 2 (.int .i64 v)
  k : w.grownBy W (some gw)
theorem stA_own {w : World} {N b off n c gw l cap Bc Bv B0 : Nat} {As : Array Value} {es : List (Int × Int)} {E r : Nat} {way : List Int} {v : Int} {M : List Int} (hB : w.heap.size ≤ B0) : OwnFrom B0 (StA w N b off n c gw l cap Bc Bv As es E r way v M) := by
  intro L W W' row h hg hr
  have hcell : ∀ (k : Nat) cur t fr, W.heap[k]? = some (.cells cur t fr) → W'.heap[k]? = W.heap[k]? := fun k cur t fr hc => hg.block k (Array.getElem?_eq_some_iff.1 hc).1 (fun e => by
    obtain ⟨_, o, ho, hcl⟩ := hr k e.symm
    rw [hc] at ho
    cases ho
    cases hcl)
  obtain ⟨q, k, ps, h1, h2, h3, h4⟩ := h.st
  refine ⟨⟨q, k, ps, (hcell _ _ _ _ h1).trans h1, rowN_same h2 (fun k cur t fr _ hc => hcell k cur t fr hc), h3, h4.same (fun k cur fr _ hc => hcell k _ _ _ hc)⟩, ?_, ⟨(hcell _ _ _ _ h.f.g).trans h.f.g, (hcell _ _ _ _ h.f.y).trans h.f.y, (hcell _ _ _ _ h.f.m).trans h.f.m⟩, (hcell _ _ _ _ h.bv).trans h.bv, ?_⟩
  · obtain ⟨cur, hc, r'⟩ := h.o
    exact ⟨cur, (hcell _ _ _ _ hc).trans hc, r'⟩
  · exact ⟨hg.os.trans h.k.os, hg.tape.trans h.k.tape, hg.output.trans h.k.output, Nat.le_trans h.k.size hg.size, fun i hi hne => (hg.block i (Nat.lt_of_lt_of_le hi h.k.size) (fun e => by have := (hr i e.symm).1; omega)).trans (h.k.block i hi hne)⟩

theorem StA.no {w : World} {N b off n c gw l cap Bc Bv : Nat} {As : Array Value} {es : List (Int × Int)} {E r : Nat} {way : List Int} {v : Int} {M : List Int} {L : List (ArS es v)} {W : World} (h : StA w N b off n c gw l cap Bc Bv As es E r way v M L W) {x : ArS es v} (hx : acT es E v M x.1.1 = false) :
    StA w N b off n c gw l cap Bc Bv As es E r way v M (L ++ [x]) W := by
  obtain ⟨q, k, ps, h1, h2, h3, h4⟩ := h.st
  exact ⟨⟨q, k, ps, h1, h2, by rw [List.map_append, List.map_singleton, acU_no hx]; exact h3, h4⟩, h.o, h.f, h.bv, h.k⟩
theorem FrA.grown {W W' : World} {B b off n c gw l cap g : Nat} {s : Int} {As : Array Value} (h : FrA W B s b off n c gw l cap As) (hg : W.grownBy W' (some g)) (hne : g < B ∨ B + 2 < g) : FrA W' B s b off n c gw l cap As :=
  h.same fun i h1 h2 h3 => hg.block i h3 (fun e => by have := Option.some.inj e; omega)
theorem boxA_grown {W W' : World} {B g : Nat} {t : TypeId} {v : Value} (h : Boxed W B t v) (hg : W.grownBy W' (some g)) (hne : B ≠ g) : Boxed W' B t v := (hg.block B h.lt (fun e => hne (Option.some.inj e))).trans h
theorem grownA_either {X Y Z : World} {gw gg : Nat} (h : X.grownBy Y (some gw)) (k : Y.grownBy Z (some gg)) (hor : gg = gw ∨ X.heap.size ≤ gg) : X.grownBy Z (some gw) :=
  ⟨k.os.trans h.os, k.tape.trans h.tape, k.output.trans h.output, Nat.le_trans h.size k.size, fun j hj hne => (k.block j (Nat.lt_of_lt_of_le hj h.size) (fun e => by
    have e1 := Option.some.inj e
    rcases hor with rfl | h2
    · exact hne e
    · omega)).trans (h.block j hj hne)⟩
theorem rowA_not {W : World} {B k c : Nat} {q : Option Addr} {xs : List Value} (h : W.ownsRow B 41 1 (.slice q k c) k xs) {i : Nat} {cur : Array Value} {fr : Nat × Nat} (hc : W.heap[i]? = some (.cells cur 2 fr)) : some i ≠ (Value.slice q k c).ownBlock := fun e => by
  rcases h.2 with ⟨hv, h0⟩ | ⟨g, c', cur', hv, hb, hg, _⟩
  · rw [hv] at e
    simp [Value.ownBlock] at e
  · rw [hv] at e
    have e1 : i = g := Option.some.inj e
    subst e1
    rw [hc] at hg
    injection hg with hg
    injection hg with _ h2
    exact absurd h2 (by decide)
theorem rowA_less {w : World} {B B' sz n : Nat} {e : TypeId} {v : Value} {xs : List Value} (h : w.ownsRow B e sz v n xs) (hB : B' ≤ B) : w.ownsRow B' e sz v n xs := by
  refine ⟨h.1, ?_⟩
  rcases h.2 with hn | ⟨g, c, cur, hv, hb, r⟩
  · exact .inl hn
  · exact .inr ⟨g, c, cur, hv, Nat.le_trans hB hb, r⟩
/-- What lies there behind the rows that are put on. -/
theorem acI_app {w6 w9 : World} {D B5 k c : Nat} {q : Option Addr} {ps qs : List AcP} {xs : List Value} (hr : w6.ownsRow D 41 1 (.slice q k c) k xs) (h1 : AcAt w6 D ps) (h2 : AcAt w6 B5 qs) (hD : D ≤ B5) (hlt : ∀ p, p ∈ ps → p.1 < B5) (hg : w6.grownBy w9 (Value.slice q k c).ownBlock) : AcAt w9 D (ps ++ qs) :=
  AcAt.app (h1.same fun i _ _ _ hc => hg.block i (Array.getElem?_eq_some_iff.1 hc).1 (rowA_not hr hc)) (h2.same fun i _ _ _ hc => hg.block i (Array.getElem?_eq_some_iff.1 hc).1 (rowA_not hr hc)) hD hlt
theorem grownA_trans {a b c : World} {row : Option Nat} (h : a.grownBy b row) (k : b.grownBy c row) : a.grownBy c row :=
  ⟨k.os.trans h.os, k.tape.trans h.tape, k.output.trans h.output, Nat.le_trans h.size k.size, fun j hj hne => (k.block j (Nat.lt_of_lt_of_le hj h.size) hne).trans (h.block j hj hne)⟩
/-- A number that is not there may be put in. -/
theorem pre_nodup {M : List Int} {N : Nat} (hn : M.Nodup) (hr : ∀ x, x ∈ M → 0 ≤ x ∧ x < (N : Int)) : M.length ≤ N := by
  have h : ∀ (N : Nat) (M : List Int), M.Nodup → (∀ x, x ∈ M → 0 ≤ x ∧ x < (N : Int)) → M.length ≤ N := by
    intro N
    induction N with
    | zero =>
      intro M _ h
      cases M with
      | nil => simp
      | cons a t => have := h a (by simp); omega
    | succ N ih =>
      intro M hn h
      have h1 := ih (M.filter fun x => decide (x ≠ (N : Int))) (List.Pairwise.filter _ hn) (fun x hx => by
        rw [List.mem_filter] at hx
        have := h x hx.1
        have h2 : x ≠ (N : Int) := by simpa using hx.2
        omega)
      have h3 : M.length ≤ (M.filter fun x => decide (x ≠ (N : Int))).length + 1 := by
        clear ih h1 h
        induction M with
        | nil => simp
        | cons a t iht =>
          have hn2 := List.nodup_cons.1 hn
          by_cases ha : a = (N : Int)
          · have e : t.filter (fun x => decide (x ≠ (N : Int))) = t := List.filter_eq_self.2 (fun x hx => by
              have : x ≠ (N : Int) := fun e => hn2.1 (by rw [ha, ← e]; exact hx)
              simpa using this)
            rw [List.filter_cons_of_neg (by simp [ha]), e]
            simp
          · rw [List.filter_cons_of_pos (by simpa using ha)]
            have := iht hn2.2
            simp only [List.length_cons]
            omega
      omega
  exact h N M hn hr

/-- What the call for the next edge is given. -/
theorem acI_pre {N b off E A r : Nat} {es : List (Int × Int)} {way : List Int} {v u : Int} {M : List Int} {As As' : Array Value} {gw gg cap cg f : Nat} {w W w5 : World} (hp : AcPre N b off E A (r + 1) es way v M As gw cap w) (ho : OwnI w5 gg cg (way ++ [(f : Int)])) (hor : (gg = gw ∧ cg = cap) ∨ W.heap.size ≤ gg)
    (hg : W.grownBy w5 (some gw)) (hbW : W.heap[b]? = w.heap[b]?) (hbL : b < w.heap.size) (hgw : gw < w.heap.size) (hA : A ≤ gw) (hz : w.heap.size ≤ W.heap.size ∧ b < A) (hu : 0 ≤ u ∧ u < (N : Int)) (hnd : ¬ u ∈ v :: M) (has : As'.size = 20 ∧ ∀ i : Nat, i < 20 → As'[i]? = some (.bool (decide ((i : Int) ∈ v :: M)))) :
    AcPre N b off E A r es (way ++ [(f : Int)]) u (v :: M) As' gg cg w5 where
  rd := hp.rd.keep ((hg.block b (by omega) (fun e => by have := Option.some.inj e; omega)).trans hbW)
  o := ho
  hA := by rcases hor with ⟨rfl, _⟩ | h <;> omega
  len := by rw [List.length_append, hp.len]; simp
  cnt := by have := hp.cnt; simp only [List.length_cons]; omega
  fst := by
    have h : eI (way ++ [(f : Int)]) 0 = eI way 0 := by
      unfold eI
      rw [List.getD_eq_getElem?_getD, List.getD_eq_getElem?_getD, List.getElem?_append_left (by have := hp.len; omega)]
    rw [h]
    exact hp.fst
  vr := hu
  nd := List.nodup_cons.2 ⟨hnd, hp.nd⟩
  mr := fun x hx => by
    rcases List.mem_cons.1 hx with rfl | hx
    · exact hp.vr
    · exact hp.mr x hx
  sz := has.1
  ar := has.2
/-- What holds at the end of a round. -/
theorem acI_end {w W w6 w9 : World} {N b off n c gw l cap Bc P0 k7 c9 n0 z0 : Nat} {q7 q9 : Option Addr} {As : Array Value} {es : List (Int × Int)} {E r : Nat} {way : List Int} {v u : Int} {M : List Int} {f : Nat} {pre : List (ArS es v)} {ps ps6 : List AcP} {hx : f < es.length ∧ onE es v f = true ∧ u = othE es v f}
    (hS : StA w N b off n c gw l cap Bc (Bc + 1 + 1) As es E r way v M pre W) (hT : acT es E v M f = true) (hU : othE es v f = u) (hP : ps.length = P0) (hm : ps.map (fun p => p.2.2) = acU es E r way v M (pre.map fun x => x.1.1)) (hm6 : ps6.map (fun p => p.2.2) = acF es E r (way ++ [(f : Int)]) u (v :: M))
    (hg6 : W.grownBy w6 (some gw)) (hg9 : w6.grownBy w9 (Value.slice q7 P0 k7).ownBlock) (hn9 : ∀ i, i < Bc + 1 → some i ≠ (Value.slice q7 P0 k7).ownBlock) (hr9 : w9.ownsRow (Bc + 1) 41 1 (.slice q9 (P0 + ps6.length) c9) (P0 + ps6.length) ((ps ++ ps6).map acV)) (ha9 : AcAt w9 (Bc + 1) (ps ++ ps6)) (ho9 : OwnI w9 gw cap way)
    (hf9 : FrA w9 w.heap.size N b off n c gw l cap As) (hx9 : Boxed w9 Bc 35 (.slice q7 P0 k7)) (hB : w.heap.size + 3 ≤ Bc ∧ gw < w.heap.size) (hn0 : n0 ≤ gw) (hWz : Bc + 3 ≤ W.heap.size) (hr6 : w6.ownsRow (Bc + 1) 41 1 (.slice q7 P0 k7) P0 (ps.map acV)) :
    KeepsFrom z0 W (w9.setCell ⟨Bc, 0, none⟩ (.slice q9 (P0 + ps6.length) c9)) ∧ KpB n0 (Bc + 1 + 1) W (w9.setCell ⟨Bc, 0, none⟩ (.slice q9 (P0 + ps6.length) c9)) ∧ StA w N b off n c gw l cap Bc (Bc + 1 + 1) As es E r way v M (pre ++ [⟨(f, u), hx⟩]) (w9.setCell ⟨Bc, 0, none⟩ (.slice q9 (P0 + ps6.length) c9)) := by
  have z6 := hg6.size
  have z9 := hg9.size
  have hbl := hS.bv.lt
  have hv : ∀ i, i ≠ gw → i < Bc → (w9.setCell ⟨Bc, 0, none⟩ (.slice q9 (P0 + ps6.length) c9)).heap[i]? = W.heap[i]? := fun i h1 h2 =>
    (heap_setCell_other _ _ _ _ (by show i ≠ Bc; omega)).trans ((hg9.block i (by omega) (hn9 i (by omega))).trans (hg6.block i (by omega) (fun e => h1 (Option.some.inj e))))
  have hrow : ∀ i o, i ≠ gw → i ≠ Bc → W.heap[i]? = some o → (∀ cur fr, o ≠ .cells cur 41 fr) → (w9.setCell ⟨Bc, 0, none⟩ (.slice q9 (P0 + ps6.length) c9)).heap[i]? = some o := fun i o h1 h2 h3 h4 => by
    have hi := (Array.getElem?_eq_some_iff.1 h3).1
    have h5 : w6.heap[i]? = some o := (hg6.block i hi (fun e => h1 (Option.some.inj e))).trans h3
    refine (heap_setCell_other _ _ _ _ (by show i ≠ Bc; omega)).trans ((hg9.block i (by omega) (fun e => ?_)).trans h5)
    rcases hr6.2 with ⟨hw, h0⟩ | ⟨g, c', cur', hw, hb, hg, _⟩
    · rw [hw] at e
      simp [Value.ownBlock] at e
    · rw [hw] at e
      have e1 : i = g := Option.some.inj e
      subst e1
      exact h4 _ _ (Option.some.inj (h5.symm.trans hg))
  have hbv : (w9.setCell ⟨Bc, 0, none⟩ (.slice q9 (P0 + ps6.length) c9)).heap[Bc + 1 + 1]? = W.heap[Bc + 1 + 1]? := by
    have h := hS.bv
    exact (hrow _ _ (by omega) (by omega) h (fun cur fr e => by injection e with _ h2; exact absurd h2 (by decide))).trans h.symm
  have hcell : ∀ i cur t fr, i ≠ Bc → w9.heap[i]? = some (Obj.cells cur t fr) → (w9.setCell ⟨Bc, 0, none⟩ (.slice q9 (P0 + ps6.length) c9)).heap[i]? = w9.heap[i]? := fun i cur t fr h1 _ => heap_setCell_other _ _ _ _ (by show i ≠ Bc; omega)
  refine ⟨⟨by simp; omega, fun k o _ ho hc => hrow k o ?_ ?_ ho (fun cur fr e => by rw [e] at hc; cases hc)⟩, ⟨⟨?_, ?_, ?_, ?_, fun i hi => hv i (by omega) (by omega)⟩, hbv⟩, ⟨q9, c9, ps ++ ps6, ?_, ?_, ?_, ?_⟩, ?_, ?_, ?_, ?_⟩
  · intro e
    rw [e] at ho
    obtain ⟨cur, h1, _⟩ := hS.o
    rw [h1] at ho
    cases ho
    cases hc
  · intro e
    rw [e] at ho
    obtain ⟨q, k, p, h1, _⟩ := hS.st
    have h1' : W.heap[Bc]? = _ := h1
    rw [h1'] at ho
    cases ho
    cases hc
  · show w9.os = W.os
    rw [hg9.os, hg6.os]
  · show w9.tape = W.tape
    rw [hg9.tape, hg6.tape]
  · show w9.output = W.output
    rw [hg9.output, hg6.output]
  · simp; omega
  · rw [List.length_append, hP]
    exact Boxed.set _ hx9
  · rw [List.length_append, hP]
    exact rowN_same hr9 (fun i cur t fr h1 hc => hcell i cur t fr (by omega) hc)
  · rw [List.map_append, hm, hm6, List.map_append, List.map_singleton, acU_yes hT, hU]
  · exact ha9.same (fun i cur fr h1 hc => hcell i cur _ fr (by omega) hc)
  · obtain ⟨cur, h1, h2⟩ := ho9
    exact ⟨cur, (hcell _ _ _ _ (by omega) h1).trans h1, h2⟩
  · exact hf9.same fun i _ h2 _ => heap_setCell_other _ _ _ _ (by show i ≠ Bc; omega)
  · exact hbv.trans hS.bv
  · refine ⟨?_, ?_, ?_, ?_, fun i hi hne => (hv i (fun e => hne (by rw [e])) (by omega)).trans (hS.k.block i hi hne)⟩
    · show w9.os = w.os
      rw [hg9.os, hg6.os, hS.k.os]
    · show w9.tape = w.tape
      rw [hg9.tape, hg6.tape, hS.k.tape]
    · show w9.output = w.output
      rw [hg9.output, hg6.output, hS.k.output]
    · have := hS.k.size
      simp
      omega

set_option maxRecDepth 100000 in
set_option maxHeartbeats 16000000 in
/-- The way goes on. -/
theorem ac_step (N b off n c E A r : Nat) (es : List (Int × Int)) (g : IsG N es) (hn : es.length = n) (hE : E < n) (hb : b < A)
    (ih : ∀ (way : List Int) (v : Int) (M : List Int) (As : Array Value) (gw cap : Nat) (w : World), AcPre N b off E A r es way v M As gw cap w →
      Calls Try.prog 45 #[.agg #[.int .i64 N, .slice (some ⟨b, off, none⟩) n c], .slice (some ⟨gw, 0, none⟩) way.length cap, .int .i64 v, .agg As] w (AcPost es E r way v M gw cap w))
    (way : List Int) (v : Int) (M : List Int) (As : Array Value) (gw cap : Nat) (w : World) (hp : AcPre N b off E A (r + 1) es way v M As gw cap w) (hv : ¬ v = eA es E) :
    Calls Try.prog 45 #[.agg #[.int .i64 N, .slice (some ⟨b, off, none⟩) n c], .slice (some ⟨gw, 0, none⟩) way.length cap, .int .i64 v, .agg As] w (AcPost es E (r + 1) way v M gw cap w) := by
  have hn30 : n ≤ 30 := by have := isG_len g; omega
  have hN20 : N ≤ 20 := by have := g.1.1.2.1; omega
  have HP := hid hp
  have Hn := hid hn
  have G := hid g
  have HIH := hid ih
  obtain ⟨l, hl⟩ : ∃ l, way.length = l := ⟨_, rfl⟩
  have hl1 : 0 < l := by have := hp.len; omega
  have hl20 : l ≤ 21 := by have := hp.len; have := hp.cnt; omega
  have hEn : (E : Int) < (n : Int) := by omega
  obtain ⟨T, hT⟩ : ∃ T, eA es E = T := ⟨_, rfl⟩
  have hvT : (v == T) = false := by rw [← hT, beq_eq_false_iff_ne]; exact hv
  obtain ⟨V, hV⟩ : ∃ V, v.toNat = V := ⟨_, rfl⟩
  have hv0 : 0 ≤ v := hp.vr.1
  have hv20 : v < 20 := by have := hp.vr.2; omega
  have HL := hid hl
  have HE := hid (And.intro hE hT)
  have HV := hid hv
  have HVn := hid (show v = (V : Int) ∧ V < 20 from ⟨by omega, by omega⟩)
  have HbL := hid (show b < w.heap.size by have := hp.o.lt; have := hp.hA; omega)
  have hgw := hp.o.lt
  have hAg := hp.hA
  obtain ⟨w1, hw1⟩ : ∃ w1, w1 = ((w.alloc (.cells #[.int .i64 N, .slice (some ⟨b, off, none⟩) n c] 28)).alloc (.cells #[.slice (some ⟨gw, 0, none⟩) l cap] 41)).alloc (.cells As 72) := ⟨_, rfl⟩
  have HB1 := hid (show Below w.heap.size w w1 by rw [hw1]; exact bfrom (bfrom (on_alloc _ _) (on_alloc _ _)) (on_alloc _ _))
  have HF1 := hid (show FrA w1 w.heap.size N b off n c gw l cap As by rw [hw1]; exact frA_new w N b off n c gw l cap As)
  have HZ1 := hid (show w1.heap.size = w.heap.size + 3 by rw [hw1]; simp)
  rw [hl]
  clear hp hn hl hT hv g hE ih
  refine (callsIn_wide (n := 6)).1 ?_
  refine callsIn_of_wp_marks Try.func45 rfl trivial ?_ rfl
  simp only [Try.ntmps45, List.size_toArray, List.length_cons, List.length_nil, Nat.reduceAdd, Nat.reduceSub, Array.replicate_succ, Array.replicate_zero, List.push_toArray, List.append_toArray, List.nil_append, List.cons_append]
  gi_wp2
  rw [← hw1]
  clear hw1
  refine region_wide ?_
  have hg0 := HF1.out.g0
  have hg1 := HF1.out.g1
  have hy := HF1.out.y.cell
  have hlz := HF1.out.lt
  have HO1 := hid (HP.out.o.on HB1.out)
  have hgz := HO1.out.lt
  have hrd := HP.out.rd.on HB1.out
  have hc0 := HO1.out.reads 0 (by rw [HL.out]; exact hl1)
  rw [HP.out.fst, Nat.zero_add] at hc0
  have hcT := (hrd E (by have := HE.out.1; have := Hn.out; omega)).1
  rw [HE.out.2] at hcT
  have hbz := World.block_lt_of_cell? w1 _ hcT
  dsimp only at hbz
  clear hrd
  go_quiet (fail)
  obtain ⟨w2, hw2⟩ : ∃ w2, w2 = w1.drewN nq := ⟨_, rfl⟩
  have HB2 := hid (show Below w.heap.size w w2 by rw [hw2]; exact bdn.mpr HB1.out)
  have HF2 := hid (show FrA w2 w.heap.size N b off n c gw l cap As by rw [hw2]; exact ⟨HF1.out.g, HF1.out.y, HF1.out.m⟩)
  have HZ2 := hid (show w2.heap.size = w.heap.size + 3 by rw [hw2]; exact HZ1.out)
  rw [← hw2]
  clear hw2 hg0 hg1 hy hlz hgz hc0 hcT hbz
  have hg0 := HF2.out.g0
  have hg1 := HF2.out.g1
  have hlz := HF2.out.lt
  have hlz0 : w.heap.size < w2.heap.size := by omega
  have hmc := HF2.out.mc V
  rw [HP.out.ar V HVn.out.2] at hmc
  have hmf := HF2.out.mf V
  gi_wp2_with (refine ⟨trivial, ?_⟩; gi_at_call 84; refine (callsIn_wide.2 (iAround_any _ _ _ _ _ _)).mono ?_; rintro e w' ⟨rfl, rfl⟩)
  obtain ⟨Bc, hBc⟩ : ∃ Bc, Bc = w2.heap.size := ⟨_, rfl⟩
  obtain ⟨As', hAs'⟩ : ∃ As', As' = As.setIfInBounds V (.bool true) := ⟨_, rfl⟩
  obtain ⟨W0, hW0⟩ : ∃ W0 : World, W0 = (((w2.setCell ⟨w.heap.size + 1 + 1, V, none⟩ (.bool true)).alloc (.cells #[.slice none 0 0] 35)).alloc (.cells #[.int .i64 N, .slice (some ⟨b, off, none⟩) n c] 28)).alloc (.cells #[.int .i64 v] 2) := ⟨_, rfl⟩
  have hsz2 := HZ2.out
  have hsz : W0.heap.size = Bc + 3 := by rw [hW0, hBc]; simp
  have hBcw : w.heap.size + 3 ≤ Bc := by rw [hBc, hsz2]; exact Nat.le_refl _
  have hB0 : Below w.heap.size w W0 := by
    rw [hW0]
    exact ((((HB2.out.setCell (p := ⟨w.heap.size + 1 + 1, V, none⟩) (by show w.heap.size ≤ w.heap.size + 1 + 1; omega) _).alloc (by simp; omega) _).alloc (by simp; omega) _).alloc (by simp; omega) _)
  have HAs := hid (show As'.size = 20 ∧ ∀ i : Nat, i < 20 → As'[i]? = some (.bool (decide ((i : Int) ∈ v :: M))) by
    rw [hAs']
    refine ⟨by rw [Array.size_setIfInBounds]; exact HP.out.sz, fun i hi => ?_⟩
    have hz := HP.out.sz
    rw [Array.getElem?_setIfInBounds]
    by_cases e : V = i
    · subst e
      rw [if_pos rfl, if_pos (by omega), decide_eq_true (show (V : Int) ∈ v :: M by rw [HVn.out.1]; exact List.mem_cons_self ..)]
    · rw [if_neg e, HP.out.ar i hi]
      have h1 : ¬ (i : Int) = v := fun h => e (by have := HVn.out.1; omega)
      rw [show decide ((i : Int) ∈ v :: M) = decide ((i : Int) ∈ M) from decide_eq_decide.2 ⟨fun h => (List.mem_cons.1 h).resolve_left h1, fun h => List.mem_cons_of_mem _ h⟩])
  have HF0 := hid (show FrA W0 w.heap.size N b off n c gw l cap As' by
    have h1 : FrA (w2.setCell ⟨w.heap.size + 1 + 1, V, none⟩ (.bool true)) w.heap.size N b off n c gw l cap As' := by
      refine ⟨(heap_setCell_other _ _ _ _ (by show w.heap.size ≠ w.heap.size + 1 + 1; omega)).trans HF2.out.g, (heap_setCell_other _ _ _ _ (by show w.heap.size + 1 ≠ w.heap.size + 1 + 1; omega)).trans HF2.out.y, ?_⟩
      rw [hAs']
      exact heap_setCell_same _ _ _ _ _ _ HF2.out.m
    rw [hW0]
    exact ((h1.on (on_alloc _ _)).on (on_alloc _ _)).on (on_alloc _ _))
  have hbC : Boxed W0 Bc 35 (.slice none 0 0) := by
    rw [hW0, hBc]
    exact ((boxedN_at _ _ _ _ (by simp)).alloc _).alloc _
  have hbG : W0.cell? ⟨Bc + 1, 1, none⟩ = some (.slice (some ⟨b, off, none⟩) n c) := by
    rw [hW0, hBc]
    have h := ((Box.new ((w2.setCell ⟨w.heap.size + 1 + 1, V, none⟩ (.bool true)).alloc (.cells #[.slice none 0 0] 35)) N (some ⟨b, off, none⟩) n c 28).on (on_alloc _ (.cells #[.int .i64 v] 2))).2
    simpa only [World.size_alloc, World.size_setCell] using h
  have hbV : Boxed W0 (Bc + 1 + 1) 2 (.int .i64 v) := by
    rw [hW0, hBc]
    exact boxedN_at _ _ _ _ (by simp)
  rw [← hW0, ← hBc]
  clear hW0 hBc hsz2 hAs' hg0 hg1 hlz hlz0 hmc hmf
  obtain ⟨i0, hi, hz0, hz1, hz2⟩ := info_parts infoInt
  have Hi := hid hi
  clear hi
  refine wpIn_rangeFunc_ownG (n := 6) rfl (by omega) (gf := 106) (lb := #[.pointer (some ⟨Bc + 1, 0, none⟩), .pointer (some ⟨Bc + 1 + 1, 0, none⟩)]) rfl trivial (enters_of Try.func106 (by kernel_rfl) rfl)
    (aroundS_stops100 5 (by omega) (Bc + 1) (Bc + 1 + 1) A b off n c v es Hn.out (by omega) hb W0 (by omega) hbG hbV.cell (by omega) (by omega) (HP.out.rd.on hB0)) kpB_t (kpB_b (by omega) (by omega)) (Below.refl _ _) (fun _ => rfl)
    (StA w N b off n c gw l cap Bc (Bc + 1 + 1) As' es E r way v M)
    (fun _ _ _ => False)
    (stA_own (by omega))
    (fun _ _ _ _ _ hs _ _ => hs)
    ⟨⟨none, 0, [], hbC, World.ownsRow_nil _ _ _ _, rfl, AcAt.nil _ _⟩, HP.out.o.on hB0, HF0.out, hbV, grownA hB0 _⟩
    ?a1 ?assign ?body ?done ?stop
  case assign =>
    intro l p W K hK
    gi_wp2
    exact hK
  case body =>
    rintro l' pre ⟨⟨f, u⟩, hfl, hfo, hfu⟩ W hS hlt
    have HS := hid hS
    have hu1 : u = othE es v f := hfu
    have hout := oth_in (endsIn_of G.out) hfl hfo
    rw [show othE es v (f, u).1 = othE es v f from rfl, ← hu1] at hout
    have HU := hid (show othE es v f = u from hu1.symm)
    have HFO := hid (show onE es v f = true from hfo)
    have hfln : f < n := by have := Hn.out; have : f < es.length := hfl; omega
    have hu0 : 0 ≤ u := hout.1
    have huN : u < (N : Int) := hout.2
    have hu20 : u < 20 := by omega
    obtain ⟨U, hU⟩ : ∃ U, u.toNat = U := ⟨_, rfl⟩
    have HUn := hid (show u = (U : Int) ∧ U < 20 from ⟨by omega, by omega⟩)
    have hyc := hS.f.y.cell
    have hyl := hS.f.y.lt
    have hml := hS.f.lt
    have hc0 := hS.o.reads 0 (by rw [HL.out]; exact hl1)
    rw [HP.out.fst, Nat.zero_add] at hc0
    have hgl := hS.o.lt
    have hmc := hS.f.mc U
    rw [HAs.out.2 U HUn.out.2, ← HUn.out.1] at hmc
    obtain ⟨bm, hbm⟩ : ∃ bm, decide (u ∈ v :: M) = bm := ⟨_, rfl⟩
    rw [hbm] at hmc
    have HBm := hid hbm
    have HLt := hid hlt
    clear hS hu1 hout hlt hbm
    by_cases hef : E < f
    · have hd : decide ((E : Int) < (f : Int)) = true := by rw [decide_eq_true_eq]; omega
      have hd2 : decide (E < f) = true := decide_eq_true hef
      cases bm
      · have HT := hid (show acT es E v M f = true by unfold acT; rw [HU.out, HBm.out, decide_eq_true hef]; rfl)
        clear hef
        gi_wp2
        obtain ⟨q7, k7, ps, hu7, hrow, hmap, hat⟩ := HS.out.st
        obtain ⟨P0, hP0⟩ : ∃ P0, ps.length = P0 := ⟨_, rfl⟩
        rw [hP0] at hu7 hrow
        have hPl : P0 ≤ 20000000000 := by
          have h1 := congrArg List.length hmap
          rw [List.length_map, hP0] at h1
          have h2 := acU_le (es := es) (E := E) (r := r) (way := way) (v := v) (M := M) (fun way v M => acF_le (acI_three G.out) E r way v M) (pre.map fun x => x.1.1)
          have h3 : (arF es v).length ≤ 3 := by
            have h4 := congrArg List.length (arF_onL es v)
            rw [List.length_map] at h4
            rw [h4]
            exact acI_three G.out v
          have h5 := HLt.out
          rw [List.length_map] at h2
          have h6 : (3 : Nat) ^ r ≤ 3 ^ 20 := Nat.pow_le_pow_right (by omega) (by have := HP.out.cnt; omega)
          have h7 : pre.length * 3 ^ r ≤ 3 * 3 ^ 20 := Nat.mul_le_mul (by omega) h6
          have h8 : (3 : Nat) * 3 ^ 20 ≤ 20000000000 := by decide
          omega
        have HP0 := hid (And.intro hP0 hPl)
        have HMap := hid hmap
        have HRow := hid hrow
        have HAt := hid hat
        have hFD : FrA W.drew w.heap.size N b off n c gw l cap As' := ⟨HS.out.f.g, HS.out.f.y, HS.out.f.m⟩
        have hXD : Boxed W.drew Bc 35 (.slice q7 P0 k7) := hu7
        have hOD : OwnI W.drew gw cap way := HS.out.o
        have HFW := hid HS.out.f
        have HXW := hid hu7
        have hWz : Bc + 3 ≤ W.heap.size := by have h := HS.out.bv.lt; omega
        have HbW := hid (show W.heap[b]? = w.heap[b]? from HS.out.k.block b HbL.out (fun e => by have := Option.some.inj e; omega))
        have HNd := hid (show ¬ u ∈ v :: M from of_decide_eq_false HBm.out)
        clear hu7 hrow hmap hat hP0 hPl
        refine region_held_round (S := fun w' => FrA w' w.heap.size N b off n c gw l cap As') (by kernel_rfl) (by kernel_rfl) ?_
        refine wpAnyH_take (i := 3) (v := .int .i64 (f : Int)) rfl (by kernel_rfl) (by kernel_rfl) (by kernel_rfl) (fun _ _ _ h => h) (Or.inl ⟨by rfl, fun w hSw => ?_⟩) (by assumption) ?_
        · go_simp
        simp only [Act.put, List.getElem_toArray, List.getElem_cons_zero, List.getElem_cons_succ, List.setIfInBounds_toArray, List.set_cons_zero, List.set_cons_succ]
        refine wpAnyH_take (i := 1) (v := .agg #[.int .i64 N, .slice (some ⟨b, off, none⟩) n c]) rfl (by kernel_rfl) (by kernel_rfl) (by kernel_rfl) (fun _ _ _ h => h) (Or.inl ⟨by rfl, fun w hSw => ?_⟩) (by assumption) ?_
        · have h0 := hSw.g0
          have h1 := hSw.g1
          go_simp
        simp only [Act.put, List.getElem_toArray, List.getElem_cons_zero, List.getElem_cons_succ, List.setIfInBounds_toArray, List.set_cons_zero, List.set_cons_succ]
        refine wpAnyH_take (i := 2) (v := .slice (some ⟨gw, 0, none⟩) l cap) rfl (by kernel_rfl) (by kernel_rfl) (by kernel_rfl) (fun _ _ _ h => h) (Or.inl ⟨by rfl, fun w hSw => ?_⟩) (by assumption) ?_
        · have h0 := hSw.y.cell
          go_simp
        simp only [Act.put, List.getElem_toArray, List.getElem_cons_zero, List.getElem_cons_succ, List.setIfInBounds_toArray, List.set_cons_zero, List.set_cons_succ]
        refine wpAnyH_take (i := 6) (v := .int .i64 u) rfl (by kernel_rfl) (by kernel_rfl) (by kernel_rfl) (fun _ _ _ h => h) (Or.inl ⟨by rfl, fun w hSw => ?_⟩) (by assumption) ?_
        · go_simp
        simp only [Act.put, List.getElem_toArray, List.getElem_cons_zero, List.getElem_cons_succ, List.setIfInBounds_toArray, List.set_cons_zero, List.set_cons_succ]
        refine wpAnyH_take (i := 7) (v := .agg As') rfl (by kernel_rfl) (by kernel_rfl) (by kernel_rfl) (fun _ _ _ h => h) (yieldsA_load (by rfl) 72 (.tmp 7) rfl (w.heap.size + 1 + 1) rfl As' _ (fun w' hSw j => hSw.mc j) Try.underlying72 (by kernel_rfl) (by rw [HAs.out.1]; kernel_rfl)) (by assumption) ?_
        simp only [Act.put, List.getElem_toArray, List.getElem_cons_zero, List.getElem_cons_succ, List.setIfInBounds_toArray, List.set_cons_zero, List.set_cons_succ]
        refine wpAnyH_ready (rs := [0, 4]) (by kernel_rfl) (by simp) ?_
        refine AllReadyH.cons rfl (fun K hK => ?_) (AllReadyH.cons rfl (fun K hK => ?_) AllReadyH.nil)
        · skip
          have h0 := (hXD).cell
          have h1 := (hXD).lt
          go_simp
          refine hK.out _ _ ?_ (fun _ => ?_)
          · exact hFD
          clear hK K h0 h1
          refine wpAnyH_ready (rs := [4]) (by kernel_rfl) (by simp) ?_
          refine AllReadyH.cons rfl (fun K hK => ?_) AllReadyH.nil
          go_simp
          have hFD4 := hFD.on (on_alloc W.drew (.cells #[.int .i64 f] 2))
          have hXD4 := boxN_on hXD (on_alloc W.drew (.cells #[.int .i64 f] 2))
          have hOD4 := hOD.on (on_alloc W.drew (.cells #[.int .i64 f] 2))
          refine hK.out _ _ ?_ (fun _ => ?_)
          · exact hFD4
          clear hK K
          refine wpAnyH_ready (rs := [5]) (by kernel_rfl) (by simp) ?_
          refine AllReadyH.cons rfl (fun K hK => ?_) AllReadyH.nil
          refine step_append_way rfl (.tmp 49) (.tmp 51) rfl i0 Hi.out hz0 hz1 hz2 HL.out (by rfl) hOD4 (by omega) (by rfl) (cell_one_new _ _ _) ?_
          intro gg cg w5 ho5 hk5 hg5 hor5
          have HO5 := hid ho5
          have HK5 := hid hk5
          have HG5 := hid (show W.grownBy w5 (some gw) from grownA_trans (grownA (on_alloc W (.cells #[.int .i64 f] 2)) _) ⟨hg5.os, hg5.tape, hg5.output, hg5.size, hg5.block⟩)
          have HOr := hid (show (gg = gw ∧ cg = cap) ∨ W.heap.size ≤ gg by
            rcases hor5 with h | h
            · exact .inl h
            · refine .inr (Nat.le_trans ?_ h)
              show W.heap.size ≤ (W.alloc _).heap.size
              simp)
          have HF5 := hid (HFW.out.grown HG5.out (.inl (by omega)))
          have HX5 := hid (boxA_grown HXW.out HG5.out (by omega))
          clear ho5 hk5 hg5 hor5
          refine hK.out _ _ ?_ (fun _ => ?_)
          · exact HF5.out
          clear hK K
          refine wpAnyH_ready (rs := [8]) (by kernel_rfl) (by simp) ?_
          refine AllReadyH.cons rfl (fun K hK => ?_) AllReadyH.nil
          have h := HIH.out (way ++ [(f : Int)]) u (v :: M) As' gg cg w5 (acI_pre HP.out HO5.out HOr.out HG5.out HbW.out HbL.out hgw hAg (by omega) ⟨hu0, huN⟩ HNd.out HAs.out)
          rw [show (way ++ [(f : Int)]).length = l + 1 by rw [List.length_append, HL.out]; rfl] at h
          have H8 := hid h
          clear h
          go_simp
          refine H8.out.mono ?_
          rintro e' w6 ⟨q6, c6, ps6, rfl, hrow6, hmap6, hat6, hg6, ho6⟩
          clear H8
          have HG6 := hid (grownA_either HG5.out hg6 (HOr.out.imp And.left id))
          have HO6 := hid (show OwnI w6 gw cap way by
            rcases HOr.out with ⟨rfl, rfl⟩ | h
            · exact ho6.headA
            · exact HK5.out.keep (hg6.block gw HK5.out.lt (fun e => by have := Option.some.inj e; omega)))
          have HF6 := hid (HFW.out.grown HG6.out (.inl (by omega)))
          have HX6 := hid (boxA_grown HXW.out HG6.out (by omega))
          have HRw6 := hid (rowN_same HRow.out (fun i cur t fr h1 hc => HG6.out.block i (Array.getElem?_eq_some_iff.1 hc).1 (fun e => by have := Option.some.inj e; omega)))
          have HAt6 := hid (HAt.out.same (fun i cur fr h1 hc => HG6.out.block i (Array.getElem?_eq_some_iff.1 hc).1 (fun e => by have := Option.some.inj e; omega)))
          have HR6 := hid hrow6
          have HM6 := hid hmap6
          have HA6 := hid hat6
          have h5z := HG5.out.size
          have h6z := hg6.size
          have hP6 : ps6.length ≤ 20000000000 := by
            have h1 := congrArg List.length hmap6
            rw [List.length_map] at h1
            have h2 := acF_le (acI_three G.out) E r (way ++ [(f : Int)]) u (v :: M)
            have h6 : (3 : Nat) ^ r ≤ 3 ^ 20 := Nat.pow_le_pow_right (by omega) (by have := HP.out.cnt; omega)
            have h8 : (3 : Nat) ^ 20 ≤ 20000000000 := by decide
            omega
          clear hrow6 hmap6 hat6 hg6 ho6
          refine hK.out _ _ ?_ (fun _ => ?_)
          · exact HF6.out
          clear hK K
          refine wpAnyH_ready (rs := [9]) (by kernel_rfl) (by simp) ?_
          refine AllReadyH.cons rfl (fun K hK => ?_) AllReadyH.nil
          refine step_append_rows rfl (.tmp 47) (.tmp 55) rfl (by rfl) HRw6.out (by rfl) HR6.out (by omega) HP0.out.2 hP6 ?_
          intro q9 c9 w9 hrow9 hg9
          have hne9 : ∀ i, i < Bc + 1 → some i ≠ (Value.slice q7 P0 k7).ownBlock := fun i hi e => by have := (HRw6.out.lt i e.symm).1; omega
          have HF9 := hid (HF6.out.same fun i _ h2 h3 => hg9.block i h3 (hne9 i (by omega)))
          have HX9 := hid (show Boxed w9 Bc 35 (.slice q7 P0 k7) from (hg9.block Bc HX6.out.lt (hne9 Bc (by omega))).trans HX6.out)
          have HO9 := hid (HO6.out.keep (hg9.block gw HO6.out.lt (hne9 gw (by omega))))
          have HA9 := hid (acI_app HRw6.out HAt6.out HA6.out (by omega) (fun p hp => Nat.lt_of_lt_of_le (HAt.out.own p hp).2.lt h5z) hg9)
          have HR9 := hid hrow9
          have HG9 := hid hg9
          have HN9 := hid hne9
          clear hrow9 hg9 hne9
          refine hK.out _ _ ?_ (fun _ => ?_)
          · exact HF9.out
          clear hK K
          refine wpAnyH_ready (rs := [10]) (by kernel_rfl) (by simp) ?_
          refine AllReadyH.cons rfl (fun K hK => ?_) AllReadyH.nil
          have hcx := HX9.out.cell
          have hfx := HX9.out.frozen
          have hlx := HX9.out.lt
          go_simp
          refine hK.out _ _ ?_ (fun _ => ?_)
          · exact HF9.out.same fun i _ h2 _ => heap_setCell_other _ _ _ _ (by show i ≠ Bc; omega)
          clear hK K
          refine wpAnyH_done (by kernel_rfl) ?_ _
          simp only [onlyN_normal]
          gi_wp2
          exact acI_end HS.out HT.out HU.out HP0.out.1 HMap.out HM6.out HG6.out HG9.out HN9.out HR9.out HA9.out HO9.out HF9.out HX9.out (by omega) (by omega) (by omega) HRw6.out
        · skip
          go_simp
          have hFD4 := hFD.on (on_alloc W.drew (.cells #[.int .i64 f] 2))
          have hXD4 := boxN_on hXD (on_alloc W.drew (.cells #[.int .i64 f] 2))
          have hOD4 := hOD.on (on_alloc W.drew (.cells #[.int .i64 f] 2))
          refine hK.out _ _ ?_ (fun _ => ?_)
          · exact hFD4
          clear hK K
          refine wpAnyH_ready (rs := [0, 5]) (by kernel_rfl) (by simp) ?_
          refine AllReadyH.cons rfl (fun K hK => ?_) (AllReadyH.cons rfl (fun K hK => ?_) AllReadyH.nil)
          · skip
            have h0 := HXW.out.cell
            have h1 := HXW.out.lt
            go_simp
            refine hK.out _ _ ?_ (fun _ => ?_)
            · exact hFD4
            clear hK K h0 h1
            refine wpAnyH_ready (rs := [5]) (by kernel_rfl) (by simp) ?_
            refine AllReadyH.cons rfl (fun K hK => ?_) AllReadyH.nil
            refine step_append_way rfl (.tmp 49) (.tmp 51) rfl i0 Hi.out hz0 hz1 hz2 HL.out (by rfl) hOD4 (by omega) (by rfl) (cell_one_new _ _ _) ?_
            intro gg cg w5 ho5 hk5 hg5 hor5
            have HO5 := hid ho5
            have HK5 := hid hk5
            have HG5 := hid (show W.grownBy w5 (some gw) from grownA_trans (grownA (on_alloc W (.cells #[.int .i64 f] 2)) _) ⟨hg5.os, hg5.tape, hg5.output, hg5.size, hg5.block⟩)
            have HOr := hid (show (gg = gw ∧ cg = cap) ∨ W.heap.size ≤ gg by
              rcases hor5 with h | h
              · exact .inl h
              · refine .inr (Nat.le_trans ?_ h)
                show W.heap.size ≤ (W.alloc _).heap.size
                simp)
            have HF5 := hid (HFW.out.grown HG5.out (.inl (by omega)))
            have HX5 := hid (boxA_grown HXW.out HG5.out (by omega))
            clear ho5 hk5 hg5 hor5
            refine hK.out _ _ ?_ (fun _ => ?_)
            · exact HF5.out
            clear hK K
            refine wpAnyH_ready (rs := [8]) (by kernel_rfl) (by simp) ?_
            refine AllReadyH.cons rfl (fun K hK => ?_) AllReadyH.nil
            have h := HIH.out (way ++ [(f : Int)]) u (v :: M) As' gg cg w5 (acI_pre HP.out HO5.out HOr.out HG5.out HbW.out HbL.out hgw hAg (by omega) ⟨hu0, huN⟩ HNd.out HAs.out)
            rw [show (way ++ [(f : Int)]).length = l + 1 by rw [List.length_append, HL.out]; rfl] at h
            have H8 := hid h
            clear h
            go_simp
            refine H8.out.mono ?_
            rintro e' w6 ⟨q6, c6, ps6, rfl, hrow6, hmap6, hat6, hg6, ho6⟩
            clear H8
            have HG6 := hid (grownA_either HG5.out hg6 (HOr.out.imp And.left id))
            have HO6 := hid (show OwnI w6 gw cap way by
              rcases HOr.out with ⟨rfl, rfl⟩ | h
              · exact ho6.headA
              · exact HK5.out.keep (hg6.block gw HK5.out.lt (fun e => by have := Option.some.inj e; omega)))
            have HF6 := hid (HFW.out.grown HG6.out (.inl (by omega)))
            have HX6 := hid (boxA_grown HXW.out HG6.out (by omega))
            have HRw6 := hid (rowN_same HRow.out (fun i cur t fr h1 hc => HG6.out.block i (Array.getElem?_eq_some_iff.1 hc).1 (fun e => by have := Option.some.inj e; omega)))
            have HAt6 := hid (HAt.out.same (fun i cur fr h1 hc => HG6.out.block i (Array.getElem?_eq_some_iff.1 hc).1 (fun e => by have := Option.some.inj e; omega)))
            have HR6 := hid hrow6
            have HM6 := hid hmap6
            have HA6 := hid hat6
            have h5z := HG5.out.size
            have h6z := hg6.size
            have hP6 : ps6.length ≤ 20000000000 := by
              have h1 := congrArg List.length hmap6
              rw [List.length_map] at h1
              have h2 := acF_le (acI_three G.out) E r (way ++ [(f : Int)]) u (v :: M)
              have h6 : (3 : Nat) ^ r ≤ 3 ^ 20 := Nat.pow_le_pow_right (by omega) (by have := HP.out.cnt; omega)
              have h8 : (3 : Nat) ^ 20 ≤ 20000000000 := by decide
              omega
            clear hrow6 hmap6 hat6 hg6 ho6
            refine hK.out _ _ ?_ (fun _ => ?_)
            · exact HF6.out
            clear hK K
            refine wpAnyH_ready (rs := [9]) (by kernel_rfl) (by simp) ?_
            refine AllReadyH.cons rfl (fun K hK => ?_) AllReadyH.nil
            refine step_append_rows rfl (.tmp 47) (.tmp 55) rfl (by rfl) HRw6.out (by rfl) HR6.out (by omega) HP0.out.2 hP6 ?_
            intro q9 c9 w9 hrow9 hg9
            have hne9 : ∀ i, i < Bc + 1 → some i ≠ (Value.slice q7 P0 k7).ownBlock := fun i hi e => by have := (HRw6.out.lt i e.symm).1; omega
            have HF9 := hid (HF6.out.same fun i _ h2 h3 => hg9.block i h3 (hne9 i (by omega)))
            have HX9 := hid (show Boxed w9 Bc 35 (.slice q7 P0 k7) from (hg9.block Bc HX6.out.lt (hne9 Bc (by omega))).trans HX6.out)
            have HO9 := hid (HO6.out.keep (hg9.block gw HO6.out.lt (hne9 gw (by omega))))
            have HA9 := hid (acI_app HRw6.out HAt6.out HA6.out (by omega) (fun p hp => Nat.lt_of_lt_of_le (HAt.out.own p hp).2.lt h5z) hg9)
            have HR9 := hid hrow9
            have HG9 := hid hg9
            have HN9 := hid hne9
            clear hrow9 hg9 hne9
            refine hK.out _ _ ?_ (fun _ => ?_)
            · exact HF9.out
            clear hK K
            refine wpAnyH_ready (rs := [10]) (by kernel_rfl) (by simp) ?_
            refine AllReadyH.cons rfl (fun K hK => ?_) AllReadyH.nil
            have hcx := HX9.out.cell
            have hfx := HX9.out.frozen
            have hlx := HX9.out.lt
            go_simp
            refine hK.out _ _ ?_ (fun _ => ?_)
            · exact HF9.out.same fun i _ h2 _ => heap_setCell_other _ _ _ _ (by show i ≠ Bc; omega)
            clear hK K
            refine wpAnyH_done (by kernel_rfl) ?_ _
            simp only [onlyN_normal]
            gi_wp2
            exact acI_end HS.out HT.out HU.out HP0.out.1 HMap.out HM6.out HG6.out HG9.out HN9.out HR9.out HA9.out HO9.out HF9.out HX9.out (by omega) (by omega) (by omega) HRw6.out
          · skip
            refine step_append_way rfl (.tmp 49) (.tmp 51) rfl i0 Hi.out hz0 hz1 hz2 HL.out (by rfl) hOD4 (by omega) (by rfl) (cell_one_new _ _ _) ?_
            intro gg cg w5 ho5 hk5 hg5 hor5
            have HO5 := hid ho5
            have HK5 := hid hk5
            have HG5 := hid (show W.grownBy w5 (some gw) from grownA_trans (grownA (on_alloc W (.cells #[.int .i64 f] 2)) _) ⟨hg5.os, hg5.tape, hg5.output, hg5.size, hg5.block⟩)
            have HOr := hid (show (gg = gw ∧ cg = cap) ∨ W.heap.size ≤ gg by
              rcases hor5 with h | h
              · exact .inl h
              · refine .inr (Nat.le_trans ?_ h)
                show W.heap.size ≤ (W.alloc _).heap.size
                simp)
            have HF5 := hid (HFW.out.grown HG5.out (.inl (by omega)))
            have HX5 := hid (boxA_grown HXW.out HG5.out (by omega))
            clear ho5 hk5 hg5 hor5
            refine hK.out _ _ ?_ (fun _ => ?_)
            · exact HF5.out
            clear hK K
            refine wpAnyH_ready (rs := [0, 8]) (by kernel_rfl) (by simp) ?_
            refine AllReadyH.cons rfl (fun K hK => ?_) (AllReadyH.cons rfl (fun K hK => ?_) AllReadyH.nil)
            · skip
              have h0 := (HX5.out).cell
              have h1 := (HX5.out).lt
              go_simp
              refine hK.out _ _ ?_ (fun _ => ?_)
              · exact HF5.out
              clear hK K h0 h1
              refine wpAnyH_ready (rs := [8]) (by kernel_rfl) (by simp) ?_
              refine AllReadyH.cons rfl (fun K hK => ?_) AllReadyH.nil
              have h := HIH.out (way ++ [(f : Int)]) u (v :: M) As' gg cg w5 (acI_pre HP.out HO5.out HOr.out HG5.out HbW.out HbL.out hgw hAg (by omega) ⟨hu0, huN⟩ HNd.out HAs.out)
              rw [show (way ++ [(f : Int)]).length = l + 1 by rw [List.length_append, HL.out]; rfl] at h
              have H8 := hid h
              clear h
              go_simp
              refine H8.out.mono ?_
              rintro e' w6 ⟨q6, c6, ps6, rfl, hrow6, hmap6, hat6, hg6, ho6⟩
              clear H8
              have HG6 := hid (grownA_either HG5.out hg6 (HOr.out.imp And.left id))
              have HO6 := hid (show OwnI w6 gw cap way by
                rcases HOr.out with ⟨rfl, rfl⟩ | h
                · exact ho6.headA
                · exact HK5.out.keep (hg6.block gw HK5.out.lt (fun e => by have := Option.some.inj e; omega)))
              have HF6 := hid (HFW.out.grown HG6.out (.inl (by omega)))
              have HX6 := hid (boxA_grown HXW.out HG6.out (by omega))
              have HRw6 := hid (rowN_same HRow.out (fun i cur t fr h1 hc => HG6.out.block i (Array.getElem?_eq_some_iff.1 hc).1 (fun e => by have := Option.some.inj e; omega)))
              have HAt6 := hid (HAt.out.same (fun i cur fr h1 hc => HG6.out.block i (Array.getElem?_eq_some_iff.1 hc).1 (fun e => by have := Option.some.inj e; omega)))
              have HR6 := hid hrow6
              have HM6 := hid hmap6
              have HA6 := hid hat6
              have h5z := HG5.out.size
              have h6z := hg6.size
              have hP6 : ps6.length ≤ 20000000000 := by
                have h1 := congrArg List.length hmap6
                rw [List.length_map] at h1
                have h2 := acF_le (acI_three G.out) E r (way ++ [(f : Int)]) u (v :: M)
                have h6 : (3 : Nat) ^ r ≤ 3 ^ 20 := Nat.pow_le_pow_right (by omega) (by have := HP.out.cnt; omega)
                have h8 : (3 : Nat) ^ 20 ≤ 20000000000 := by decide
                omega
              clear hrow6 hmap6 hat6 hg6 ho6
              refine hK.out _ _ ?_ (fun _ => ?_)
              · exact HF6.out
              clear hK K
              refine wpAnyH_ready (rs := [9]) (by kernel_rfl) (by simp) ?_
              refine AllReadyH.cons rfl (fun K hK => ?_) AllReadyH.nil
              refine step_append_rows rfl (.tmp 47) (.tmp 55) rfl (by rfl) HRw6.out (by rfl) HR6.out (by omega) HP0.out.2 hP6 ?_
              intro q9 c9 w9 hrow9 hg9
              have hne9 : ∀ i, i < Bc + 1 → some i ≠ (Value.slice q7 P0 k7).ownBlock := fun i hi e => by have := (HRw6.out.lt i e.symm).1; omega
              have HF9 := hid (HF6.out.same fun i _ h2 h3 => hg9.block i h3 (hne9 i (by omega)))
              have HX9 := hid (show Boxed w9 Bc 35 (.slice q7 P0 k7) from (hg9.block Bc HX6.out.lt (hne9 Bc (by omega))).trans HX6.out)
              have HO9 := hid (HO6.out.keep (hg9.block gw HO6.out.lt (hne9 gw (by omega))))
              have HA9 := hid (acI_app HRw6.out HAt6.out HA6.out (by omega) (fun p hp => Nat.lt_of_lt_of_le (HAt.out.own p hp).2.lt h5z) hg9)
              have HR9 := hid hrow9
              have HG9 := hid hg9
              have HN9 := hid hne9
              clear hrow9 hg9 hne9
              refine hK.out _ _ ?_ (fun _ => ?_)
              · exact HF9.out
              clear hK K
              refine wpAnyH_ready (rs := [10]) (by kernel_rfl) (by simp) ?_
              refine AllReadyH.cons rfl (fun K hK => ?_) AllReadyH.nil
              have hcx := HX9.out.cell
              have hfx := HX9.out.frozen
              have hlx := HX9.out.lt
              go_simp
              refine hK.out _ _ ?_ (fun _ => ?_)
              · exact HF9.out.same fun i _ h2 _ => heap_setCell_other _ _ _ _ (by show i ≠ Bc; omega)
              clear hK K
              refine wpAnyH_done (by kernel_rfl) ?_ _
              simp only [onlyN_normal]
              gi_wp2
              exact acI_end HS.out HT.out HU.out HP0.out.1 HMap.out HM6.out HG6.out HG9.out HN9.out HR9.out HA9.out HO9.out HF9.out HX9.out (by omega) (by omega) (by omega) HRw6.out
            · skip
              have h := HIH.out (way ++ [(f : Int)]) u (v :: M) As' gg cg w5 (acI_pre HP.out HO5.out HOr.out HG5.out HbW.out HbL.out hgw hAg (by omega) ⟨hu0, huN⟩ HNd.out HAs.out)
              rw [show (way ++ [(f : Int)]).length = l + 1 by rw [List.length_append, HL.out]; rfl] at h
              have H8 := hid h
              clear h
              go_simp
              refine H8.out.mono ?_
              rintro e' w6 ⟨q6, c6, ps6, rfl, hrow6, hmap6, hat6, hg6, ho6⟩
              clear H8
              have HG6 := hid (grownA_either HG5.out hg6 (HOr.out.imp And.left id))
              have HO6 := hid (show OwnI w6 gw cap way by
                rcases HOr.out with ⟨rfl, rfl⟩ | h
                · exact ho6.headA
                · exact HK5.out.keep (hg6.block gw HK5.out.lt (fun e => by have := Option.some.inj e; omega)))
              have HF6 := hid (HFW.out.grown HG6.out (.inl (by omega)))
              have HX6 := hid (boxA_grown HXW.out HG6.out (by omega))
              have HRw6 := hid (rowN_same HRow.out (fun i cur t fr h1 hc => HG6.out.block i (Array.getElem?_eq_some_iff.1 hc).1 (fun e => by have := Option.some.inj e; omega)))
              have HAt6 := hid (HAt.out.same (fun i cur fr h1 hc => HG6.out.block i (Array.getElem?_eq_some_iff.1 hc).1 (fun e => by have := Option.some.inj e; omega)))
              have HR6 := hid hrow6
              have HM6 := hid hmap6
              have HA6 := hid hat6
              have h5z := HG5.out.size
              have h6z := hg6.size
              have hP6 : ps6.length ≤ 20000000000 := by
                have h1 := congrArg List.length hmap6
                rw [List.length_map] at h1
                have h2 := acF_le (acI_three G.out) E r (way ++ [(f : Int)]) u (v :: M)
                have h6 : (3 : Nat) ^ r ≤ 3 ^ 20 := Nat.pow_le_pow_right (by omega) (by have := HP.out.cnt; omega)
                have h8 : (3 : Nat) ^ 20 ≤ 20000000000 := by decide
                omega
              clear hrow6 hmap6 hat6 hg6 ho6
              refine hK.out _ _ ?_ (fun _ => ?_)
              · exact HF6.out
              clear hK K
              refine wpAnyH_ready (rs := [0]) (by kernel_rfl) (by simp) ?_
              refine AllReadyH.cons rfl (fun K hK => ?_) AllReadyH.nil
              have h0 := (HX6.out).cell
              have h1 := (HX6.out).lt
              go_simp
              refine hK.out _ _ ?_ (fun _ => ?_)
              · exact HF6.out
              clear hK K h0 h1
              refine wpAnyH_ready (rs := [9]) (by kernel_rfl) (by simp) ?_
              refine AllReadyH.cons rfl (fun K hK => ?_) AllReadyH.nil
              refine step_append_rows rfl (.tmp 47) (.tmp 55) rfl (by rfl) HRw6.out (by rfl) HR6.out (by omega) HP0.out.2 hP6 ?_
              intro q9 c9 w9 hrow9 hg9
              have hne9 : ∀ i, i < Bc + 1 → some i ≠ (Value.slice q7 P0 k7).ownBlock := fun i hi e => by have := (HRw6.out.lt i e.symm).1; omega
              have HF9 := hid (HF6.out.same fun i _ h2 h3 => hg9.block i h3 (hne9 i (by omega)))
              have HX9 := hid (show Boxed w9 Bc 35 (.slice q7 P0 k7) from (hg9.block Bc HX6.out.lt (hne9 Bc (by omega))).trans HX6.out)
              have HO9 := hid (HO6.out.keep (hg9.block gw HO6.out.lt (hne9 gw (by omega))))
              have HA9 := hid (acI_app HRw6.out HAt6.out HA6.out (by omega) (fun p hp => Nat.lt_of_lt_of_le (HAt.out.own p hp).2.lt h5z) hg9)
              have HR9 := hid hrow9
              have HG9 := hid hg9
              have HN9 := hid hne9
              clear hrow9 hg9 hne9
              refine hK.out _ _ ?_ (fun _ => ?_)
              · exact HF9.out
              clear hK K
              refine wpAnyH_ready (rs := [10]) (by kernel_rfl) (by simp) ?_
              refine AllReadyH.cons rfl (fun K hK => ?_) AllReadyH.nil
              have hcx := HX9.out.cell
              have hfx := HX9.out.frozen
              have hlx := HX9.out.lt
              go_simp
              refine hK.out _ _ ?_ (fun _ => ?_)
              · exact HF9.out.same fun i _ h2 _ => heap_setCell_other _ _ _ _ (by show i ≠ Bc; omega)
              clear hK K
              refine wpAnyH_done (by kernel_rfl) ?_ _
              simp only [onlyN_normal]
              gi_wp2
              exact acI_end HS.out HT.out HU.out HP0.out.1 HMap.out HM6.out HG6.out HG9.out HN9.out HR9.out HA9.out HO9.out HF9.out HX9.out (by omega) (by omega) (by omega) HRw6.out
      · have HT := hid (show acT es E v M f = false by unfold acT; rw [HU.out, HBm.out, decide_eq_true hef]; rfl)
        clear hef
        gi_wp2
        exact ⟨⟨Nat.le_refl _, fun k o _ hk _ => hk⟩, ⟨Below.refl _ _, rfl⟩, HS.out.no HT.out⟩
    · have hd : decide ((E : Int) < (f : Int)) = false := by rw [decide_eq_false_iff_not]; omega
      have hd2 : decide (E < f) = false := decide_eq_false hef
      have HT := hid (show acT es E v M f = false by unfold acT; rw [decide_eq_false hef]; rfl)
      clear hef
      gi_wp2
      exact ⟨⟨Nat.le_refl _, fun k o _ hk _ => hk⟩, ⟨Below.refl _ _, rfl⟩, HS.out.no HT.out⟩
  case done =>
    rintro D ys W hD hys hS hK
    obtain ⟨q7, k7, ps, hu7, hrow, hmap, hat⟩ := hS.st
    have hc7 := hu7.cell
    have hl7 := hu7.lt
    have hAll : ys.map (fun x => x.1.1) = onL es v := by
      have h := congrArg (List.map Prod.fst) hys
      rw [List.map_map, arF_onL] at h
      exact h
    rw [hAll] at hmap
    have HMap := hid hmap
    have HRow := hid hrow
    have HAt := hid hat
    have HS := hid hS
    clear hS hys hrow hmap hat hAll
    gi_wp2
    refine ⟨by simp, .inl ⟨_, _, rfl, run_takeDeferred hK, ?_⟩⟩
    have hput : ∀ i cur t fr, W.heap[i]? = some (Obj.cells cur t fr) → (W.putObj D (.deferred none)).heap[i]? = W.heap[i]? := fun i cur t fr h => World.putObj_heap_other (fun e => by
      subst e
      rw [h] at hK
      cases hK)
    refine ⟨.slice q7 ps.length k7, by simp [results, Try.results45, go_sem], q7, k7, ps, rfl, rowA_less (rowN_same HRow.out (fun i cur t fr _ hc => hput i cur t fr hc)) (by omega), by rw [acF_on HV.out]; exact HMap.out, (HAt.out.same (fun i cur fr _ hc => hput i cur _ fr hc)).less (by omega), ?_, ?_⟩
    · have h := HS.out.k
      exact ⟨h.os, h.tape, h.output, by simpa [World.putObj] using h.size, fun i hi hne => (World.putObj_heap_other (by omega)).trans (h.block i hi hne)⟩
    · obtain ⟨cur, h1, h2⟩ := HS.out.o
      exact ⟨cur, (hput _ _ _ _ h1).trans h1, h2⟩
  case stop =>
    rintro D c pre W _ _ h _
    exact h.elim


/-- The contract of the search. -/
theorem iAc_any (N b off n c E A : Nat) (es : List (Int × Int)) (g : IsG N es) (hn : es.length = n) (hE : E < n) (hb : b < A) : ∀ (r : Nat) (way : List Int) (v : Int) (M : List Int) (As : Array Value) (gw cap : Nat) (w : World), AcPre N b off E A r es way v M As gw cap w →
    Calls Try.prog 45 #[.agg #[.int .i64 N, .slice (some ⟨b, off, none⟩) n c], .slice (some ⟨gw, 0, none⟩) way.length cap, .int .i64 v, .agg As] w (AcPost es E r way v M gw cap w)
  | 0, way, v, M, As, gw, cap, w, hp => by
    have h := pre_nodup (N := N) hp.nd (fun x hx => by
      rcases List.mem_cons.1 hx with rfl | hx
      · exact hp.vr
      · exact hp.mr x hx)
    have := hp.cnt
    simp at h
    omega
  | r + 1, way, v, M, As, gw, cap, w, hp => by
    by_cases hv : v = eA es E
    · exact ac_leaf N b off n c E A r es g hn hE way v M As gw cap w hp hv
    · exact ac_step N b off n c E A r es g hn hE hb (iAc_any N b off n c E A es g hn hE hb r) way v M As gw cap w hp hv

end Go.Proofs.Ytfdlhdgmbjdhbaa
