/- The cycles of an even set in the program: cyclesOf. -/
import Derived.Test.YtfdlhdgmbjdhbaaMoves
import Derived.Test.YtfdlhdgmbjdhbaaSortI
import Derived.Test.YtfdlhdgmbjdhbaaAlongI
import Derived.Test.YtfdlhdgmbjdhbaaMovB
import Derived.Test.YtfdlhdgmbjdhbaaDistM
import Derived.Test.YtfdlhdgmbjdhbaaCyX
import Derived.Test.YtfdlhdgmbjdhbaaOwnMore
import Derived.Test.YtfdlhdgmbjdhbaaLists

/- The library's sort of the last numbers of a row of the call's own. -/
namespace Go.Proofs.Ytfdlhdgmbjdhbaa
open Go.RowKit Go.Lib Go.Sort Go.Shelf

theorem OwnI.holdsAt {w : World} {g cap : Nat} {xs ys : List Int} (h : OwnI w g cap (xs ++ ys)) : Holds (Value.int .i64) w g xs.length ys.toArray := fun j hj => by
  have hj' : j < ys.length := by simpa using hj
  refine ⟨?_, h.free _⟩
  have h1 := h.reads (xs.length + j) (by rw [List.length_append]; omega)
  rw [Nat.zero_add] at h1
  rw [h1, getInt!_toArray ys j hj']
  unfold eI
  rw [List.getD_eq_getElem?_getD, List.getElem?_append_right (by omega), Nat.add_sub_cancel_left, ← List.getD_eq_getElem?_getD]

def sortedAt (w : World) (g off n : Nat) (xs : List Int) (os : Array Obj) : World := grow (putRow (Value.int .i64) (Sort.ahead w n) g off xs.toArray) os
theorem heap_sortedAt {w : World} {g off n : Nat} {xs : List Int} {os : Array Obj} {cur : Array Value} {t : TypeId} {fr : Nat × Nat} (h : w.heap[g]? = some (.cells cur t fr)) :
    (sortedAt w g off n xs os).heap[g]? = some (.cells (putCells (Value.int .i64) off xs.toArray cur) t fr) := by
  have hl : g < w.heap.size := (Array.getElem?_eq_some_iff.1 h).1
  unfold sortedAt putRow grow mapBlock
  show ((w.heap.modify g _) ++ os)[g]? = _
  rw [Array.getElem?_append, if_pos (by simpa using hl), Array.getElem?_modify, if_pos rfl, h]
  rfl
theorem grown_sortedAt (w : World) (g off n : Nat) (xs : List Int) (os : Array Obj) : w.grownBy (sortedAt w g off n xs os) (some g) := by
  refine ⟨rfl, rfl, rfl, ?_, fun k hk hne => ?_⟩
  · unfold sortedAt putRow grow mapBlock
    show w.heap.size ≤ ((w.heap.modify g _) ++ os).size
    simp
  · unfold sortedAt putRow grow mapBlock
    show ((w.heap.modify g _) ++ os)[k]? = _
    rw [Array.getElem?_append]
    rw [if_pos (by simp; omega), Array.getElem?_modify, if_neg (fun e => hne (by rw [e]))]
theorem OwnI.sortedAt {w : World} {g cap n : Nat} {xs ys zs : List Int} {os : Array Obj} (h : OwnI w g cap (xs ++ ys)) (hl : zs.length = ys.length) : OwnI (sortedAt w g xs.length n zs os) g cap (xs ++ zs) := by
  obtain ⟨cur, hc, hs, hle, hm, r⟩ := h
  rw [List.length_append] at hle
  refine ⟨_, heap_sortedAt hc, by simp [putCells, hs], by rw [List.length_append]; omega, hm, fun i hi => ?_⟩
  rw [List.length_append] at hi
  unfold putCells
  rw [Array.getElem?_mapIdx, Array.getElem?_eq_getElem (by omega)]
  by_cases h1 : i < xs.length
  · have h2 := r i (by rw [List.length_append]; omega)
    rw [Array.getElem?_eq_getElem (by omega)] at h2
    have e : eI (xs ++ zs) i = eI (xs ++ ys) i := by
      unfold eI
      rw [List.getD_eq_getElem?_getD, List.getD_eq_getElem?_getD, List.getElem?_append_left h1, List.getElem?_append_left h1]
    rw [e]
    simp only [Option.map_some]
    rw [if_neg (by omega)]
    exact h2
  · have e : eI (xs ++ zs) i = eI zs (i - xs.length) := by
      unfold eI
      rw [List.getD_eq_getElem?_getD, List.getElem?_append_right (by omega), ← List.getD_eq_getElem?_getD]
    rw [e]
    simp only [Option.map_some]
    rw [if_pos (by simp; omega), getInt!_toArray zs _ (by omega)]

theorem sortAt_any (g cap c m : Nat) (xs ys : List Int) (w : World) (ho : OwnI w g cap (xs ++ ys)) (hl : ys.length = m) (hm : m ≤ 1048576) :
    Calls Try.prog 83 #[.slice (some ⟨g, xs.length, none⟩) m c] w fun e w' => e = .returned (.tuple #[]) ∧ OwnI w' g cap (xs ++ ys.mergeSort fun x y => decide (x ≤ y)) ∧ w.grownBy w' (some g) := by
  have hcon := AnyM.slices_Sort_int Try.sortI g xs.length c ys w ho.holdsAt ho.lt (by omega)
  change Calls Try.prog 83 _ _ _ at hcon
  subst hl
  refine hcon.mono ?_
  rintro e w' ⟨he, n, os, rfl⟩
  exact ⟨he, ho.sortedAt (List.length_mergeSort _), grown_sortedAt _ _ _ _ _ _⟩

end Go.Proofs.Ytfdlhdgmbjdhbaa

namespace Go.Proofs.Ytfdlhdgmbjdhbaa
open Go.RowKit Go.Shelf

attribute [local go_sem] Oper.semAt_some



/- The walk along a cycle. -/
section
variable {N : Nat} {es : List (Int × Int)} {xs : List Int}
def stW (es : List (Int × Int)) (nx : Int → Nat → Nat) (e j : Nat) : DirT := (((wyS es nx e j).1 : Int), othE es (wyS es nx e j).2 (wyS es nx e j).1, (wyS es nx e j).2)
theorem stW_zero (es : List (Int × Int)) (nx : Int → Nat → Nat) (e : Nat) : stW es nx e 0 = alT es e 0 := by
  show (((e : Nat) : Int), othE es (eB es e) e, eB es e) = ((e : Int), eA es e, eB es e)
  have : othE es (eB es e) e = eA es e := by unfold othE; omega
  rw [this]
theorem flat_mem (g : IsG N es) (gs : isSetP es.length xs) (he : evenP N es xs) {i j : Nat} (hi : i ≤ xs.length) (hj : j < xs.length) : eI xs j ∈ (cycX es xs i).flatten ↔ metX es xs i j = true := by
  induction i with
  | zero => simp [cycX, metX_zero]
  | succ i ih =>
    have IH := ih (by omega)
    cases hm : metX es xs i i
    · rw [cycX_yes hm, List.flatten_append, List.mem_append, IH, metX_succ, Bool.or_eq_true]
      have h1 : eI xs j ∈ [grpX es xs i].flatten ↔ joinB es xs i j = true := by
        simp only [List.flatten_cons, List.flatten_nil, List.append_nil]
        unfold grpX
        rw [List.mem_map]
        constructor
        · rintro ⟨k, hk, e⟩
          have h := (List.mem_filter.1 hk).2
          unfold joinB at h ⊢
          rwa [e] at h
        · intro h
          exact ⟨j, List.mem_filter.2 ⟨List.mem_range.2 hj, h⟩, rfl⟩
      rw [h1]
    · rw [cycX_no hm, IH, metX_old g gs he (by omega) hj hm]
theorem flat_len (g : IsG N es) (gs : isSetP es.length xs) (he : evenP N es xs) {i : Nat} (hi : i ≤ xs.length) : (cycX es xs i).flatten.length = ((List.range xs.length).filter (metX es xs i)).length := by
  induction i with
  | zero => rw [List.filter_eq_nil_iff.2 (fun j _ => by simp [metX_zero])]; rfl
  | succ i ih =>
    have IH := ih (by omega)
    cases hm : metX es xs i i
    · rw [cycX_yes hm, List.flatten_append, List.length_append, IH]
      have h1 : ([grpX es xs i].flatten).length = ((List.range xs.length).filter (joinB es xs i)).length := by
        simp only [List.flatten_cons, List.flatten_nil, List.append_nil]
        unfold grpX
        rw [List.length_map]
      have h2 : ((List.range xs.length).filter (metX es xs (i + 1))).length = ((List.range xs.length).filter fun j => metX es xs i j || joinB es xs i j).length := by
        congr 1
        apply List.filter_congr
        intro j _
        rw [metX_succ]
      have h3 : ((List.range xs.length).filter fun j => metX es xs i j || joinB es xs i j).length = ((List.range xs.length).filter (metX es xs i)).length + ((List.range xs.length).filter (joinB es xs i)).length := by
        have key : ∀ L : List Nat, (∀ x ∈ L, x < xs.length) → (L.filter fun j => metX es xs i j || joinB es xs i j).length = (L.filter (metX es xs i)).length + (L.filter (joinB es xs i)).length := by
          intro L
          induction L with
          | nil => intro _; rfl
          | cons x L ihL =>
            intro hL
            have ih' := ihL (fun y hy => hL y (by simp [hy]))
            simp only [List.filter_cons]
            cases hp : metX es xs i x <;> cases hq : joinB es xs i x
            · simpa using ih'
            · simp only [Bool.or_true, if_true, List.length_cons, Bool.false_eq_true, if_false]; omega
            · simp only [Bool.or_false, if_true, List.length_cons, Bool.false_eq_true, if_false]; omega
            · exfalso
              obtain ⟨k, hk, h⟩ := metX_iff.1 hp
              have : metX es xs i i = true := metX_iff.2 ⟨k, hk, join_trans g gs he (by omega) (hL x (by simp)) (by omega) h (join_symm g gs he (by omega) (hL x (by simp)) hq)⟩
              rw [hm] at this
              cases this
        exact key _ (fun x hx => List.mem_range.1 hx)
      rw [h2, h3, h1]
    · rw [cycX_no hm, IH]
      congr 1
      apply List.filter_congr
      intro j hj
      rw [metX_old g gs he (by omega) (List.mem_range.1 hj) hm]
theorem flat_le (g : IsG N es) (gs : isSetP es.length xs) (he : evenP N es xs) {i : Nat} (hi : i ≤ xs.length) : (cycX es xs i).flatten.length ≤ xs.length := by
  rw [flat_len g gs he hi]
  have := List.length_filter_le (metX es xs i) (List.range xs.length)
  simpa using this
end

/-- What lies in memory behind the first edges of the set. -/
structure CyW (w3 W : World) (B Bl Ba m l : Nat) (Ds : List Nat) (S : List Int) : Prop where
  box : W.heap[Bl]? = some (.cells #[.slice (some ⟨Ba, 0, none⟩) l m] 41 (0, 0))
  own : OwnI W Ba m S
  len : S.length = l
  kept : Kept (fun i => i < w3.heap.size ∧ i ≠ Bl ∧ i ≠ Ba) w3 W
  nodup : Ds.Nodup
  col : ∀ D, D ∈ Ds → W.heap[D]? = some (.deferred (some [])) ∧ B ≤ D

set_option maxHeartbeats 1000000 in
theorem next_within {N b off n c m f Bg Bs e : Nat} {ps : Option Addr} {es : List (Int × Int)} {xs : List Int} (w : World) (hn : es.length = n) (hr : ReadsE w b off es) (g : IsG N es) (hx : xs.length = m) (hm : m ≤ 1048576) (hrx : SeesI w ps xs)
    (hG : Box w Bg N (some ⟨b, off, none⟩) n c) (hS : w.cell? ⟨Bs, 0, none⟩ = some (.slice ps m f)) (T : TwoG N es (inB es xs) (nxW es (inB es xs))) (he : inB es xs e = true) (j : Nat) :
    Calls Try.prog 124 (#[dirV (stW es (nxW es (inB es xs)) e j).1 (stW es (nxW es (inB es xs)) e j).2.1 (stW es (nxW es (inB es xs)) e j).2.2] ++ #[.pointer (some ⟨Bg, 0, none⟩), .pointer (some ⟨Bs, 0, none⟩)]) w
      fun r w' => r = .returned (dirV (stW es (nxW es (inB es xs)) e (j + 1)).1 (stW es (nxW es (inB es xs)) e (j + 1)).2.1 (stW es (nxW es (inB es xs)) e (j + 1)).2.2) ∧ Below w.heap.size w w' := by
  have hv := wyS_ok T he j
  have hvr := wyS_rng T hv
  have hvk := hv.ok
  have hvo := hv.on
  clear hv
  have hlt := T.lt _ hvk
  have hor := oth_in' g hlt hvo
  obtain ⟨q1, q2, q3⟩ := T.nx_ok _ _ hvk hvo
  have hone := fun y hy1 hy2 => T.one _ _ y hvk hy1 hvo hy2
  have hyr := oth_in' g (T.lt _ q1) q2
  have hstep : stW es (nxW es (inB es xs)) e (j + 1) = (((nxW es (inB es xs) (wyS es (nxW es (inB es xs)) e j).2 (wyS es (nxW es (inB es xs)) e j).1 : Nat) : Int), (wyS es (nxW es (inB es xs)) e j).2, othE es (wyS es (nxW es (inB es xs)) e j).2 (nxW es (inB es xs) (wyS es (nxW es (inB es xs)) e j).2 (wyS es (nxW es (inB es xs)) e j).1)) := by
    unfold stW
    show (((wyStep es (nxW es (inB es xs)) (wyS es (nxW es (inB es xs)) e j)).1 : Int), othE es (wyStep es (nxW es (inB es xs)) (wyS es (nxW es (inB es xs)) e j)).2 (wyStep es (nxW es (inB es xs)) (wyS es (nxW es (inB es xs)) e j)).1, (wyStep es (nxW es (inB es xs)) (wyS es (nxW es (inB es xs)) e j)).2) = _
    unfold wyStep
    dsimp only
    rw [oth_oth]
  rw [hstep]
  unfold stW
  dsimp only
  obtain ⟨E, hE⟩ : ∃ E, (wyS es (nxW es (inB es xs)) e j).1 = E := ⟨_, rfl⟩
  rw [hE] at hvk hvo hlt hor q1 q2 q3 hone hyr ⊢
  obtain ⟨V, hV⟩ : ∃ V : Nat, (wyS es (nxW es (inB es xs)) e j).2 = V := ⟨_, (Int.toNat_of_nonneg hvr.1).symm⟩
  rw [hV] at hvo hvr hor q1 q2 q3 hone hyr ⊢
  obtain ⟨NX, hNX⟩ : ∃ NX, nxW es (inB es xs) (V : Int) E = NX := ⟨_, rfl⟩
  rw [hNX] at q1 q2 q3 hone hyr ⊢
  obtain ⟨F, hF⟩ : ∃ F : Nat, othE es (V : Int) E = F := ⟨_, (Int.toNat_of_nonneg hor.1).symm⟩
  obtain ⟨Y, hY⟩ : ∃ Y : Nat, othE es (V : Int) NX = Y := ⟨_, (Int.toNat_of_nonneg hyr.1).symm⟩
  rw [hF, hY]
  exact iWithin_any N E V F Bg Bs b off n c m f ps es xs w hn hr g hx hm hrx hG.1 hG.2 hS (by omega) hF NX Y q3 q2 (T.lt _ q1) (inB_iff.1 q1).2 hY (fun x hx1 hx2 hx3 => hone x (inB_iff.2 ⟨hx1, hx3⟩) hx2)

/-- What lies in memory while the walk along a cycle goes on. -/
structure CyR (w5 W : World) (Bl Ba m l : Nat) (S : List Int) (pre : List DirT) : Prop where
  box : W.heap[Bl]? = some (.cells #[.slice (some ⟨Ba, 0, none⟩) (l + pre.length) m] 41 (0, 0))
  own : OwnI W Ba m (S ++ pre.map fun x => x.1)
  kept : Kept (fun i => i < w5.heap.size ∧ i ≠ Bl ∧ i ≠ Ba) w5 W
theorem CyR.from (w5 : World) (Bl Ba m l : Nat) (S : List Int) : OwnFrom w5.heap.size (fun (pre : List DirT) W => CyR w5 W Bl Ba m l S pre) := by
  intro pre W W' row h hg hr
  have key : ∀ (k : Nat) (cur : Array Value) (t : TypeId) (fr : Nat × Nat), W.heap[k]? = some (.cells cur t fr) → W'.heap[k]? = W.heap[k]? := fun k cur t fr hk => hg.block k (Array.getElem?_eq_some_iff.1 hk).1 (fun e => by
    obtain ⟨_, o, h1, h2⟩ := hr k e.symm
    rw [hk] at h1
    have := Option.some.inj h1
    subst this
    cases h2)
  obtain ⟨cur, hc, _⟩ := h.own
  exact ⟨(key _ _ _ _ h.box).trans h.box, h.own.keep (key _ _ _ _ hc), h.kept.trans ⟨hg.os, hg.tape, hg.output, hg.size, fun i hi hl => hg.block i hl (fun e => by have := (hr i e.symm).1; omega)⟩⟩
theorem CyR.moved {w5 W W' : World} {Bl Ba m l A : Nat} {S : List Int} {pre : List DirT} (h : CyR w5 W Bl Ba m l S pre) (hm : Kept (fun i => i < A) W W') (hA : w5.heap.size ≤ A) (hBl : Bl < A) (hBa : Ba < A) : CyR w5 W' Bl Ba m l S pre :=
  ⟨(hm.same Bl hBl (Array.getElem?_eq_some_iff.1 h.box).1).trans h.box, h.own.keep (hm.same Ba hBa h.own.lt), h.kept.trans (hm.mono fun i hi => by omega)⟩
/-- What holds at the head of the loop over the set. -/
def CyI (N b off n c m f z0 z1 z2 : Nat) (ps : Option Addr) (es : List (Int × Int)) (xs : List Int) (w3 : World) (a' : Act) (W : World) : Prop :=
  ∃ (i cap : Nat) (q : Option Addr) (Ds : List Nat) (u9 u10 u11 u12 u22 u23 u24 u25 u26 u27 u28 u29 u30 u31 u32 u33 u34 u35 u36 u37 u38 u39 u40 u41 u42 u43 u44 u45 u46 u47 u48 u49 u50 u51 u52 u53 u54 : Value), a' = { tmps := #[.agg #[.int .i64 N, .slice (some ⟨b, off, none⟩) n c], .slice ps m f, .pointer (some ⟨z0, 0, none⟩), undef, .slice none 0 0, .slice q (cycX es xs i).length cap, .pointer (some ⟨z2, 0, none⟩), .func (.func 124) #[] #[.pointer (some ⟨z2 + 1, 0, none⟩), .pointer (some ⟨z2 + 1 + 1, 0, none⟩)], undef, u9, u10, u11, u12, .slice ps m f, .int .i64 m, .slice (some ⟨z1, 0, none⟩) 0 m, .agg #[.int .i64 N, .slice (some ⟨b, off, none⟩) n c], .slice ps m f, .func (.func 124) #[] #[.pointer (some ⟨z2 + 1, 0, none⟩), .pointer (some ⟨z2 + 1 + 1, 0, none⟩)], .slice ps m f, .int .i64 m, .int .i64 i, u22, u23, u24, u25, u26, u27, u28, u29, u30, u31, u32, u33, u34, u35, u36, u37, u38, u39, u40, u41, u42, u43, u44, u45, u46, u47, u48, u49, u50, u51, u52, u53, u54, undef], defers := colls Ds } ∧ i ≤ m ∧
    Hid (CyW w3 W w3.heap.size z2 z1 m (cycX es xs i).flatten.length Ds (cycX es xs i).flatten) ∧ Hid (W.ownsRow w3.heap.size 41 1 (.slice q (cycX es xs i).length cap) (cycX es xs i).length (rowsV z1 (cycX es xs i)))

set_option maxRecDepth 100000 in
set_option maxHeartbeats 16000000 in
theorem iCycO_any (N b off n c m f : Nat) (ps : Option Addr) (es : List (Int × Int)) (xs : List Int) (w : World) (hn : es.length = n) (hr : ReadsE w b off es) (g : IsG N es) (hx : xs.length = m) (hrx : SeesI w ps xs) (gs : isSetP n xs) (gev : evenP N es xs) :
    Calls Try.prog 122 #[.agg #[.int .i64 N, .slice (some ⟨b, off, none⟩) n c], .slice ps m f] w fun e' w' => ∃ q cap ba, e' = .returned (.slice q (cycX es xs m).length cap) ∧ w'.ownsRow w.heap.size 41 1 (.slice q (cycX es xs m).length cap) (cycX es xs m).length (rowsV ba (cycX es xs m)) ∧ OwnI w' ba m (cycX es xs m).flatten ∧ w.heap.size ≤ ba ∧ Below w.heap.size w w' := by
  have hn30 : n ≤ 30 := by have := isG_len g; omega
  have hN20 : N ≤ 20 := by have := g.1.1.2.1; omega
  have hm30 : m ≤ 30 := by have := set_len gs; omega
  have gs' : isSetP es.length xs := by rw [hn]; exact gs
  have Hn := hid hn
  have Hr := hid hr
  have Hx := hid hx
  have Hrx := hid hrx
  have G := hid g
  have GS := hid gs'
  have GE := hid gev
  have T := hid (two_even g gs' gev)
  have hbl : b < w.heap.size := reads_lt hr (by have := g.1.1.2.2.2; have := g.1.1.1; omega)
  obtain ⟨j0, hj, hy0, hy1, hy2⟩ := info_parts infoInt
  obtain ⟨s0, hs, hs0, hs1, hs2⟩ := info_parts infoSlO
  have Hj := hid hj
  have Hs := hid hs
  clear hn hr hx hrx g gs gs' gev hj hs
  refine (callsIn_wide (n := 6)).1 ?_
  refine callsIn_of_wp_marks Try.func122 rfl trivial ?_ rfl
  simp only [Try.ntmps122, List.size_toArray, List.length_cons, List.length_nil, Nat.reduceAdd, Nat.reduceSub, Array.replicate_succ, Array.replicate_zero, List.push_toArray, List.append_toArray, List.nil_append, List.cons_append]
  obtain ⟨w1, hw1⟩ : ∃ w1, w1 = w.alloc (.cells #[.int .i64 N, .slice (some ⟨b, off, none⟩) n c] 28) := ⟨_, rfl⟩
  have HX1 := hid (show Box w1 w.heap.size N (some ⟨b, off, none⟩) n c by rw [hw1]; exact Box.new _ _ _ _ _ _)
  have HB1 := hid (show Below w.heap.size w w1 by rw [hw1]; exact on_alloc _ _)
  have HS1 := hid (show w1.heap.size = w.heap.size + 1 by rw [hw1]; simp)
  gi_wp2_with (first
    | (gi_at_make; rw [← hw1]; clear hw1; refine wpListIn_make_own _ rfl _ _ 41 rfl w1.heap.size 2 j0 (.int .i64 0) 1 Try.underlying41 Hj.out hy0 hy1 _ _ _ m rfl rfl rfl (by rw [hy2]; omega) (by unfold maxLen; omega) (Nat.le_refl _) ?_; intro w2 hown hgrow; have HO2 := hid (show OwnI w2 w1.heap.size m [] from (OwnI.of_row (xs := []) hown rfl).1); have HB2 := hid ((Below.refl w1.heap.size w1).grown hgrow (Nat.le_refl _) (fun k e => by cases e)); have hX2 := HX1.out.on HB2.out; have hx2 := hX2.1; have hxy2 := hX2.2; have hz2 := hX2.lt; clear hown hgrow hX2)
    | (refine ⟨trivial, ?_⟩; gi_at_call 95; refine (callsIn_wide.2 (iMkWithin_any _ _ _ _ _ _ _ _)).mono ?_; rintro e w' ⟨rfl, rfl⟩))
  obtain ⟨w3, hw3⟩ : ∃ w3, w3 = ((w2.alloc (.cells #[.slice (some ⟨w1.heap.size, 0, none⟩) 0 m] 41)).alloc (.cells #[.int .i64 N, .slice (some ⟨b, off, none⟩) n c] 28)).alloc (.cells #[.slice ps m f] 41) := ⟨_, rfl⟩
  rw [← hw3]
  have HB3 := hid (show Below w2.heap.size w2 w3 by rw [hw3]; exact bfrom (bfrom (on_alloc _ _) (on_alloc _ _)) (on_alloc _ _))
  have HS3 := hid (show w3.heap.size = w2.heap.size + 1 + 1 + 1 by rw [hw3]; simp)
  have HL3 := hid (show w3.heap[w2.heap.size]? = some (.cells #[.slice (some ⟨w1.heap.size, 0, none⟩) 0 m] 41 (0, 0)) by
    rw [hw3]
    exact (Below.heap_alloc _ _ _ (by simp only [World.size_alloc]; omega)).trans ((Below.heap_alloc _ _ _ (by simp)).trans (World.alloc_heap_new w2 _)))
  have HG3 := hid (show Box w3 (w2.heap.size + 1) N (some ⟨b, off, none⟩) n c by
    rw [hw3]
    have h := (Box.new (w2.alloc (.cells #[.slice (some ⟨w1.heap.size, 0, none⟩) 0 m] 41)) N (some ⟨b, off, none⟩) n c 28).on (on_alloc _ (.cells #[.slice ps m f] 41))
    rwa [World.size_alloc] at h)
  have HP3 := hid (show w3.cell? ⟨w2.heap.size + 1 + 1, 0, none⟩ = some (.slice ps m f) by
    rw [hw3]
    have h := (Boxed.new ((w2.alloc (.cells #[.slice (some ⟨w1.heap.size, 0, none⟩) 0 m] 41)).alloc (.cells #[.int .i64 N, .slice (some ⟨b, off, none⟩) n c] 28)) 41 (.slice ps m f)).cell
    rw [World.size_alloc, World.size_alloc] at h
    exact h)
  have HO3 := hid (HO2.out.on HB3.out)
  clear hw3 hx2 hxy2 hz2
  have hs21 := HB2.out.size
  have hs11 : w.heap.size < w1.heap.size := by have := HS1.out; omega
  have hs31 : w2.heap.size + 1 + 1 < w3.heap.size := by have := HS3.out; omega
  have ho2l := HO2.out.lt
  refine wpIn_loop (CyI N b off n c m f w.heap.size w1.heap.size w2.heap.size ps es xs w3) (fun a' _ => m - (intOf (a'.tmps.getD 21 undef)).toNat) ?start ?round
  case start =>
    exact ⟨0, 0, none, [], _, _, _, _, _, _, _, _, _, _, _, _, _, _, _, _, _, _, _, _, _, _, _, _, _, _, _, _, _, _, _, _, _, _, _, _, _, rfl, Nat.zero_le _, hid ⟨HL3.out, HO3.out, rfl, Kept.refl _ _, List.nodup_nil, fun D h => by simp at h⟩, hid (World.ownsRow_nil _ _ _ _)⟩
  case round =>
    rintro a' W ⟨i, cap, q, Ds, u9, u10, u11, u12, u22, u23, u24, u25, u26, u27, u28, u29, u30, u31, u32, u33, u34, u35, u36, u37, u38, u39, u40, u41, u42, u43, u44, u45, u46, u47, u48, u49, u50, u51, u52, u53, u54, rfl, hi, hM, hR⟩
    have hclen := cycX_len es xs i
    obtain ⟨LS, hLS⟩ : ∃ LS, cycX es xs i = LS := ⟨_, rfl⟩
    rw [hLS] at hM hR hclen ⊢
    have HLS := hid hLS
    obtain ⟨S, hS⟩ : ∃ S, LS.flatten = S := ⟨_, rfl⟩
    rw [hS] at hM
    have HS := hid hS
    obtain ⟨l, hl⟩ : ∃ l, S.length = l := ⟨_, rfl⟩
    rw [hl] at hM
    obtain ⟨K0, hK0⟩ : ∃ K0, LS.length = K0 := ⟨_, rfl⟩
    rw [hK0] at hR hclen ⊢
    have HK0 := hid hK0
    clear hLS hS hl hK0
    have hszW := hM.out.kept.size
    have HW0 := hid (show ∀ k, k < w.heap.size → W.heap[k]? = w.heap[k]? from fun k hk => (hM.out.kept.same k ⟨by omega, by omega, by omega⟩ (by omega)).trans ((HB3.out.block k (by omega)).trans ((HB2.out.block k (by omega)).trans (HB1.out.block k hk))))
    by_cases hlt : i < m
    · have hix : i < xs.length := by have := Hx.out; omega
      have hlt' : (i : Int) < (m : Int) := by omega
      obtain ⟨hE1, hE2⟩ := eX_at GS.out hix
      obtain ⟨E, hE⟩ : ∃ E, eX xs i = E := ⟨_, rfl⟩
      rw [hE] at hE1 hE2
      have hEn : E < n := by have := Hn.out; omega
      have HE := hid (And.intro hE (And.intro hE1 hE2))
      obtain ⟨sb, so, rfl, hrd⟩ : ∃ sb so, ps = some ⟨sb, so, none⟩ ∧ ReadsI w sb so xs := by
        rcases Hrx.out with h | h
        · have := Hx.out; rw [h] at this; simp at this; omega
        · exact h
      have hsb0 := hrd.lt (show 0 < xs.length by omega)
      have hce := (hrd.keep (HW0.out sb hsb0)) i hix
      rw [hE1] at hce
      have hsbW : sb < W.heap.size := by omega
      have hcl : W.cell? ⟨w2.heap.size, 0, none⟩ = some (.slice (some ⟨w1.heap.size, 0, none⟩) l m) := cell_of_row W _ 0 _ _ _ hM.out.box
      have hfl : W.frozen? ⟨w2.heap.size, 0, none⟩ = false := frozen_of_row W _ 0 _ _ hM.out.box
      have hBlW : w2.heap.size < W.heap.size := (Array.getElem?_eq_some_iff.1 hM.out.box).1
      have hmt := flat_mem G.out GS.out GE.out (i := i) (j := i) (by omega) hix
      rw [HLS.out, HS.out, hE1] at hmt
      obtain ⟨a, ha⟩ : ∃ a, metX es xs i i = a := ⟨_, rfl⟩
      have hdec : decide ((E : Int) ∈ S) = a := by
        rw [ha] at hmt
        cases a
        · simpa using hmt
        · simpa using hmt
      have HA := hid ha
      have HDec := hid hdec
      clear hrd hE hE1 hE2 hmt ha hdec
      have HCon := hid (show Calls Try.prog 72 #[.slice (some ⟨w1.heap.size, 0, none⟩) l m, .int .i64 E] W fun e w' => e = .returned (.bool a) ∧ W = w' by
        have h := iContains_any (some ⟨w1.heap.size, 0, none⟩) l m E S W hM.out.len (by have := hM.out.own.le; have := hM.out.len; omega) hM.out.own.sees
        rw [HDec.out] at h
        exact h)
      cases a
      · have hX0 : Box W w.heap.size N (some ⟨b, off, none⟩) n c := ((HX1.out.on HB2.out).on HB3.out).same (hM.out.kept.same w.heap.size ⟨by omega, by omega, by omega⟩ (by omega))
        have g0 := hX0.1
        have g1 := hX0.2
        have g2 := hX0.lt
        have HrW := hid (Hr.out.keep (HW0.out b hbl))
        have hal : alT es E 0 = ((E : Int), eA es E, eB es E) := rfl
        have hAl := iAlong_any N b off n c E 0 es W Hn.out hn30 HrW.out hEn (by omega)
        rw [hal] at hAl
        have HAl := hid hAl
        clear hal hAl hX0
        gi_wp2_with (first
          | (refine ⟨trivial, ?_⟩; gi_at_call 72; refine (callsIn_wide.2 HCon.out).mono ?_; rintro e' w' ⟨rfl, rfl⟩)
          | (refine ⟨trivial, ?_⟩; gi_at_call 94; refine (callsIn_wide.2 HAl.out).mono ?_; rintro e' w4 ⟨rfl, hb4⟩)
          | (refine ⟨trivial, ?_⟩; gi_at_call 93; refine (callsIn_wide.2 (iWalk_any _ _ _ _ _ rfl)).mono ?_; rintro e' w' ⟨rfl, rfl⟩))
        obtain ⟨nx, hnx⟩ : ∃ nx, nxW es (inB es xs) = nx := ⟨_, rfl⟩
        have HNX := hid hnx
        have hin : inB es xs E = true := by have h := eX_in GS.out hix; rwa [HE.out.1] at h
        have HIn := hid hin
        have HT := hid (show TwoG N es (inB es xs) nx by rw [← hnx]; exact T.out)
        obtain ⟨Kc, hKc⟩ : ∃ Kc, cyK es nx E = Kc := ⟨_, rfl⟩
        have hsp := cyK_spec HT.out hin
        rw [hKc] at hsp
        obtain ⟨hK0', hKn, hKe, hKm⟩ := hsp
        have HKe := hid (show stW es nx E Kc = stW es nx E 0 by
          have h := wy_close HT.out hin hKe
          unfold stW
          rw [h])
        have HKi := hid (show ∀ a b, a < b → b < Kc → stW es nx E a ≠ stW es nx E b from fun a b hab hb h => by
          have h2 := wy_inj HT.out hin hKm hab hb
          have h3 := congrArg Prod.fst h
          simp only [stW] at h3
          exact h2 (by omega))
        have hgs := grp_sort G.out GS.out GE.out hix
        rw [HE.out.1, hnx] at hgs
        have HGs := hid hgs
        have hgl : (grpX es xs i).length = Kc := by rw [← hgs, List.length_mergeSort]; unfold cyL; rw [cyP_len, hKc]
        have HGl := hid hgl
        have hcap : l + Kc ≤ m := by
          have h := flat_le G.out GS.out GE.out (i := i + 1) (by omega)
          rw [cycX_yes HA.out, HLS.out, List.flatten_append, List.length_append, HS.out, hM.out.len, Hx.out] at h
          simp only [List.flatten_cons, List.flatten_nil, List.append_nil] at h
          omega
        have HCyL := hid (show (List.range Kc).map (fun j => (stW es nx E j).1) = cyL es nx E by unfold cyL cyP; rw [hKc]; rfl)
        obtain ⟨w5, hw5⟩ : ∃ w5, w5 = (w4.alloc (.cells #[.int .i64 E, .int .i64 (eA es E), .int .i64 (eB es E)] 118)).alloc (.cells #[.func (.func 124) #[] #[.pointer (some ⟨w2.heap.size + 1, 0, none⟩), .pointer (some ⟨w2.heap.size + 1 + 1, 0, none⟩)]] 120) := ⟨_, rfl⟩
        rw [← hw5]
        have HB5 := hid (show Below W.heap.size W w5 by rw [hw5]; exact bfrom (bfrom hb4 (on_alloc _ _)) (on_alloc _ _))
        have HS5 := hid (show w5.heap.size = w4.heap.size + 1 + 1 by rw [hw5]; simp)
        have HSt := hid (show BoxT w5 w4.heap.size (stW es nx E 0) by
          rw [stW_zero, hw5]
          exact (Box3.new w4 _ E (eA es E) (eB es E) rfl).on (on_alloc _ _))
        have HFn := hid (show w5.cell? ⟨w4.heap.size + 1, 0, none⟩ = some (.func (.func 124) #[] #[.pointer (some ⟨w2.heap.size + 1, 0, none⟩), .pointer (some ⟨w2.heap.size + 1 + 1, 0, none⟩)]) by
          rw [hw5]
          have h := (Boxed.new (w4.alloc (.cells #[.int .i64 E, .int .i64 (eA es E), .int .i64 (eB es E)] 118)) 120 (.func (.func 124) #[] #[.pointer (some ⟨w2.heap.size + 1, 0, none⟩), .pointer (some ⟨w2.heap.size + 1 + 1, 0, none⟩)])).cell
          rw [World.size_alloc] at h
          exact h)
        have h4s := hb4.size
        have hs5 : w4.heap.size + 1 < w5.heap.size := by have := HS5.out; omega
        have HI0 := hid (show CyR w5 w5 w2.heap.size w1.heap.size m l S [] from ⟨(HB5.out.block _ hBlW).trans hM.out.box, by rw [List.map_nil, List.append_nil]; exact hM.out.own.on HB5.out, Kept.refl _ _⟩)
        have HBa := hM.out.own.lt
        clear hw5 hb4 hnx hin hKc hgs hgl hKe hKm g0 g1 g2 hcl hfl hce
        refine rangeFunc_movesB (n := 6) rfl (by omega) (gf := 123) (lb := #[.pointer (some ⟨w4.heap.size, 0, none⟩), .pointer (some ⟨w4.heap.size + 1, 0, none⟩)]) rfl trivial (enters_of Try.func123 (by kernel_rfl) rfl) (A := w5.heap.size + 2) rfl
          (walk_moves 4 (w5.heap.size + 2) w4.heap.size (w4.heap.size + 1) 124 Kc #[.pointer (some ⟨w2.heap.size + 1, 0, none⟩), .pointer (some ⟨w2.heap.size + 1 + 1, 0, none⟩)] (stW es nx E) (fun i => i ≠ w2.heap.size ∧ i ≠ w1.heap.size) w5 (by omega) (by omega) (by omega) ⟨by omega, by omega⟩ ⟨by omega, by omega⟩ hK0' HKe.out HKi.out HSt.out HFn.out (enters_of Try.func124 (by kernel_rfl) rfl)
            (fun j hj W' hW' => by
              have hk : ∀ k, k < W.heap.size → k ≠ w2.heap.size → k ≠ w1.heap.size → W'.heap[k]? = W.heap[k]? := fun k h1 h2 h3 => (hW'.same k ⟨by omega, h2, h3⟩ (by omega)).trans (HB5.out.block k h1)
              have hk0 : ∀ k, k < w.heap.size → W'.heap[k]? = w.heap[k]? := fun k h1 => (hk k (by omega) (by omega) (by omega)).trans (HW0.out k h1)
              have hk3 : ∀ k, k < w3.heap.size → k ≠ w2.heap.size → k ≠ w1.heap.size → W'.heap[k]? = w3.heap[k]? := fun k h1 h2 h3 => (hk k (by omega) h2 h3).trans (hM.out.kept.same k ⟨h1, h2, h3⟩ h1)
              have e1 := hk3 (w2.heap.size + 1) (by omega) (by omega) (by omega)
              have e2 := hk3 (w2.heap.size + 1 + 1) (by omega) (by omega) (by omega)
              have h := next_within (N := N) (b := b) (off := off) (n := n) (c := c) (m := m) (f := f) (Bg := w2.heap.size + 1) (Bs := w2.heap.size + 1 + 1) (e := E) (ps := some ⟨sb, so, none⟩) (es := es) (xs := xs) W' Hn.out (Hr.out.keep (hk0 b hbl)) G.out Hx.out (by omega) (by
                rcases Hrx.out with h | ⟨sb', so', e, h⟩
                · exact .inl h
                · simp only [Option.some.injEq, Addr.mk.injEq, and_true] at e
                  obtain ⟨rfl, rfl⟩ := e
                  exact .inr ⟨sb, so, rfl, h.keep (hk0 sb hsb0)⟩) (HG3.out.same e1) ((World.cell?_of_block (w := w3) (a := ⟨w2.heap.size + 1 + 1, 0, none⟩) e2).trans HP3.out) (by rw [HNX.out]; exact HT.out) HIn.out j
              rw [HNX.out] at h
              exact h))
          (fun h k => h.trans k) (fun W' lo o o' h1 h2 hl ho => ⟨rfl, rfl, rfl, by simp [World.putObj], fun i hp hi => World.putObj_heap_other (by rcases hp with hp | hp <;> omega)⟩)
          (fun Y Z i o h h1 h2 ho => (h.same i (by omega) (Array.getElem?_eq_some_iff.1 ho).1).trans ho) (fun Y Z h => h.size) (fun x W' lo o o' h _ _ hl ho => trivial) (Below.refl _ _) (fun _ => rfl)
          (fun (pre : List DirT) W' => CyR w5 W' w2.heap.size w1.heap.size m l S pre)
          (fun _ _ _ => False)
          (CyR.from w5 w2.heap.size w1.heap.size m l S)
          (fun _ _ _ _ _ hs _ _ => hs)
          (fun s Y Z h hm => h.moved hm (by omega) (by omega) (by omega))
          (fun _ _ _ _ h _ => h)
          HI0.out (fun x => .cells #[.int .i64 x.1, .int .i64 x.2.1, .int .i64 x.2.2] 118) (fun W' o => (Kept.refl _ W').callD (on_alloc W' o)) (fun _ _ _ _ => trivial)
          (fun x B => { tmps := #[.agg #[.int .i64 N, .slice (some ⟨b, off, none⟩) n c], .slice (some ⟨sb, so, none⟩) m f, .pointer (some ⟨w.heap.size, 0, none⟩), undef, .slice none 0 0, .slice q K0 cap, .pointer (some ⟨w2.heap.size, 0, none⟩), .func (.func 124) #[] #[.pointer (some ⟨w2.heap.size + 1, 0, none⟩), .pointer (some ⟨w2.heap.size + 1 + 1, 0, none⟩)], undef, .int .i64 E, .int .i64 l, .pointer (some ⟨B, 0, none⟩), u12, .slice (some ⟨sb, so, none⟩) m f, .int .i64 m, .slice (some ⟨w1.heap.size, 0, none⟩) 0 m, .agg #[.int .i64 N, .slice (some ⟨b, off, none⟩) n c], .slice (some ⟨sb, so, none⟩) m f, .func (.func 124) #[] #[.pointer (some ⟨w2.heap.size + 1, 0, none⟩), .pointer (some ⟨w2.heap.size + 1 + 1, 0, none⟩)], .slice (some ⟨sb, so, none⟩) m f, .int .i64 m, .int .i64 i, .bool true, .pointer (some ⟨sb, so + i, none⟩), .int .i64 E, .slice (some ⟨w1.heap.size, 0, none⟩) l m, .int .i64 E, .bool false, .slice (some ⟨w1.heap.size, 0, none⟩) l m, .int .i64 l, .agg #[.int .i64 N, .slice (some ⟨b, off, none⟩) n c], .int .i64 E, dirV E (eA es E) (eB es E), .func (.func 124) #[] #[.pointer (some ⟨w2.heap.size + 1, 0, none⟩), .pointer (some ⟨w2.heap.size + 1 + 1, 0, none⟩)], .func (.func 123) #[] #[.pointer (some ⟨w4.heap.size, 0, none⟩), .pointer (some ⟨w4.heap.size + 1, 0, none⟩)], dirV x.1 x.2.1 x.2.2, u36, u37, u38, u39, u40, u41, u42, u43, u44, u45, u46, u47, u48, u49, u50, u51, u52, u53, u54, undef], defers := [] }) ?assign ?body ?done ?stop
        case assign =>
          intro lo x W' K hK
          gi_wp2
          exact hK
        case body =>
          rintro lo pre x B W' hI _ hBA hBx hlen
          have hszK := hI.kept.size
          have HI := hid hI
          have hc1 : W'.cell? ⟨w2.heap.size, 0, none⟩ = some (.slice (some ⟨w1.heap.size, 0, none⟩) (l + pre.length) m) := cell_of_row W' _ 0 _ _ _ hI.box
          have hc2 : W'.cell? ⟨B, 0, none⟩ = some (.int .i64 x.1) := cell_of_row W' B 0 _ _ _ hBx
          have hBl' : w2.heap.size < W'.heap.size := (Array.getElem?_eq_some_iff.1 hI.box).1
          have hBB : B < W'.heap.size := (Array.getElem?_eq_some_iff.1 hBx).1
          have hBa' := hI.own.lt
          have HLen := hid (show (S ++ pre.map fun x => x.1).length = l + pre.length by rw [List.length_append, List.length_map, hM.out.len])
          obtain ⟨L, hL⟩ : ∃ L, l + pre.length = L := ⟨_, rfl⟩
          have hLm : L + 1 ≤ m := by omega
          rw [hL] at hc1 HLen
          have HL := hid hL
          clear hI hBx hL
          gi_wp2_with (gi_at_builtin; go_must (refine wpListIn_append_fits _ rfl (.tmp 36) (.tmp 39) 41 rfl 0 2 j0 1 Try.underlying41 Hj.out hy1 w1.heap.size L m (intVals (S ++ pre.map fun x => x.1)) rfl ((OwnI.row HI.out.own HLen.out (Nat.zero_le _)).alloc _) ⟨W'.heap.size, 0, none⟩ 1 1 [.int .i64 x.1] rfl rfl (cell_one_new _ _ _) (by simp [Value.oneCell']) hLm ?_); intro w8 hown8 hgrow8; have hb8 : w8.heap[w2.heap.size]? = some (.cells #[.slice (some ⟨w1.heap.size, 0, none⟩) L m] 41 (0, 0)) := (hgrow8.block w2.heap.size (by rw [World.size_alloc]; omega) (fun e => by have := Option.some.inj e; omega)).trans ((Below.heap_alloc W' _ _ hBl').trans (by rw [← HL.out]; exact HI.out.box)); have hd8 : w8.cell? ⟨w2.heap.size, 0, none⟩ = some (.slice (some ⟨w1.heap.size, 0, none⟩) L m) := cell_of_row w8 _ 0 _ _ _ hb8; have hf8 : w8.frozen? ⟨w2.heap.size, 0, none⟩ = false := frozen_of_row w8 _ 0 _ _ hb8; have hs8 := hgrow8.size)
          rw [World.size_alloc] at hs8
          have hkeep : ∀ k, k < W'.heap.size → k ≠ w2.heap.size → k ≠ w1.heap.size → (w8.setCell ⟨w2.heap.size, 0, none⟩ (.slice (some ⟨w1.heap.size, 0, none⟩) (L + 1) m)).heap[k]? = W'.heap[k]? := fun k h1 h2 h3 =>
            (heap_setCell_other w8 ⟨w2.heap.size, 0, none⟩ k _ h2).trans ((hgrow8.block k (by rw [World.size_alloc]; omega) (fun e => h3 (Option.some.inj e))).trans (Below.heap_alloc W' _ _ h1))
          have hsz8 : (w8.setCell ⟨w2.heap.size, 0, none⟩ (.slice (some ⟨w1.heap.size, 0, none⟩) (L + 1) m)).heap.size = w8.heap.size := by simp [World.setCell]
          refine ⟨⟨by rw [hsz8]; omega, fun k o hk ho hcs => (hkeep k (Array.getElem?_eq_some_iff.1 ho).1 (by omega) (by omega)).trans ho⟩, ⟨hgrow8.os, hgrow8.tape, hgrow8.output, by rw [hsz8]; omega, fun k hk hl => hkeep k hl (by rcases hk with hk | hk; exact hk.2.1; omega) (by rcases hk with hk | hk; exact hk.2.2; omega)⟩, ⟨?_, ?_, ?_⟩⟩
          · rw [List.length_append, ← Nat.add_assoc, HL.out]
            exact heap_setCell_same _ _ _ _ _ _ hb8
          · rw [List.map_append, ← List.append_assoc]
            have h := (OwnI.of_row (xs := (S ++ pre.map fun x => x.1) ++ [x.1]) (n := L + 1) (by rw [intVals_append]; exact hown8) (by rw [List.length_append, HLen.out]; rfl)).1
            exact h.far (by show w1.heap.size ≠ w2.heap.size; omega) _
          · exact HI.out.kept.trans ⟨hgrow8.os, hgrow8.tape, hgrow8.output, by rw [hsz8]; omega, fun k hk hl => hkeep k hl hk.2.1 hk.2.2⟩
        case done =>
          rintro D ys W' hD hS hI hK
          subst hS
          have hszK := hI.kept.size
          have HI := hid hI
          have hbox := hI.box
          have hown := hI.own
          rw [List.length_map, List.length_range] at hbox
          rw [List.map_map, show ((fun x : DirT => x.1) ∘ stW es nx E) = (fun j => (stW es nx E j).1) from rfl, HCyL.out] at hown
          obtain ⟨L, hL⟩ : ∃ L, l + Kc = L := ⟨_, rfl⟩
          rw [hL] at hbox
          have hc1 : W'.cell? ⟨w2.heap.size, 0, none⟩ = some (.slice (some ⟨w1.heap.size, 0, none⟩) L m) := cell_of_row W' _ 0 _ _ _ hbox
          have hBl' : w2.heap.size < W'.heap.size := (Array.getElem?_eq_some_iff.1 hbox).1
          have hsl : ∀ w', (Instr.slice 41 (.slice (some ⟨w1.heap.size, 0, none⟩) L m) (some (.int .i64 l)) (some (.int .i64 L)) (some (.int .i64 L))).run Try.prog w' = .ok (.slice (some ⟨w1.heap.size, l, none⟩) Kc Kc) w' := fun w' => run_three w' w1.heap.size l L m Kc hL hK0' (by omega)
          have HBox := hid hbox
          have HOwn := hid hown
          have HKd := hid hK
          have HL := hid hL
          have hDz : D < W'.heap.size := (Array.getElem?_eq_some_iff.1 hK).1
          clear hI hbox hown hK hL
          gi_wp2_with (first
            | (refine ⟨trivial, ?_⟩; gi_at_call 83; refine (callsIn_wide.2 (by have h := sortAt_any w1.heap.size m Kc Kc S (cyL es nx E) W' HOwn.out (by rw [← HGl.out, ← HGs.out, List.length_mergeSort]) (by omega); rw [hM.out.len] at h; exact h)).mono ?_; rintro e' w6 ⟨rfl, ho6, hg6⟩; have hR6 : w6.ownsRow w3.heap.size 41 1 (.slice q K0 cap) K0 (rowsV w1.heap.size LS) := ownsRow_keep hR.out (fun k h1 h2 => (hg6.block k (by omega) (fun e => by have := Option.some.inj e; omega)).trans ((HI.out.kept.same k ⟨by omega, by omega, by omega⟩ (by omega)).trans (HB5.out.block k h2))); have hs6 := hg6.size)
            | (gi_at_builtin; go_must (refine wpListIn_append_own _ rfl (.tmp 50) (.tmp 52) 35 rfl w3.heap.size 41 s0 (.slice none 0 0) 1 24 Try.underlying35 Hs.out hs0 hs1 hs2 rfl (by decide) (.slice q K0 cap) K0 (rowsV w1.heap.size LS) rfl (hR6.alloc _) ⟨w6.heap.size, 0, none⟩ 1 1 [.slice (some ⟨w1.heap.size, l, none⟩) Kc Kc] rfl rfl (cell_one_new _ _ _) (by simp [Value.oneCell']) (by unfold maxLen; omega) (by omega) (by simp; omega) ?_); intro v' w9 hown9 hgrow9 _; obtain ⟨g9, cap9, rfl⟩ := ownsRow_succ hown9))
          rw [HGs.out] at ho6
          have HYes := hid (show cycX es xs (i + 1) = LS ++ [grpX es xs i] by rw [cycX_yes HA.out, HLS.out])
          have HYf := hid (show (cycX es xs (i + 1)).flatten = S ++ grpX es xs i by rw [HYes.out, List.flatten_append, HS.out]; simp)
          have HYl := hid (show (cycX es xs (i + 1)).length = K0 + 1 by rw [HYes.out, List.length_append, HK0.out]; rfl)
          have hrow9 : ∀ j, (Value.slice q K0 cap).ownBlock = some j → w3.heap.size ≤ j ∧ j < w6.heap.size := hR6.lt
          have hk9 : ∀ k, k < w6.heap.size → some k ≠ (Value.slice q K0 cap).ownBlock → w9.heap[k]? = w6.heap[k]? := fun k h1 h2 => (hgrow9.block k (by rw [World.size_alloc]; omega) h2).trans (Below.heap_alloc w6 _ _ h1)
          have hs9 : w6.heap.size + 1 ≤ w9.heap.size := by have := hgrow9.size; rwa [World.size_alloc] at this
          have hk9' : ∀ k, k < w3.heap.size → w9.heap[k]? = w6.heap[k]? := fun k h1 => hk9 k (by omega) (fun e => by have := (hrow9 k e.symm).1; omega)
          have hkW : ∀ k, k < W'.heap.size → k ≠ w1.heap.size → w6.heap[k]? = W'.heap[k]? := fun k h1 h2 => hg6.block k h1 (fun e => h2 (Option.some.inj e))
          have hnoD : ∀ D' o, w6.heap[D']? = some o → o.isCells = false → some D' ≠ (Value.slice q K0 cap).ownBlock := fun D' o h1 h2 e => by
            rcases hR6.2 with ⟨h3, _⟩ | ⟨g, c', cur, h3, _, h4, _⟩
            · rw [h3] at e; cases e
            · rw [h3] at e
              have e2 : D' = g := Option.some.inj e
              subst e2
              rw [h4] at h1
              have := Option.some.inj h1
              subst this
              cases h2
          have hDs : ∀ D', D' ∈ Ds → D' < W.heap.size := fun D' h => (Array.getElem?_eq_some_iff.1 (hM.out.col D' h).1).1
          refine ⟨⟨i + 1, cap9, some ⟨g9, 0, none⟩, D :: Ds, _, _, _, _, _, _, _, _, _, _, _, _, _, _, _, _, _, _, _, _, _, _, _, _, _, _, _, _, _, _, _, _, _, _, _, _, _, by rw [HYl.out]; rfl, by omega, hid ⟨?_, ?_, rfl, ?_, ?_, ?_⟩, hid ?_⟩, ?_⟩
          · rw [HYf.out, List.length_append, hM.out.len, HGl.out, HL.out]
            exact (hk9' _ (by omega)).trans ((hkW _ hBl' (by omega)).trans HBox.out)
          · rw [HYf.out]
            exact ho6.keep (hk9' _ (by omega))
          · refine ⟨?_, ?_, ?_, by omega, fun k hk hl => ?_⟩
            · exact hgrow9.os.trans (hg6.os.trans (HI.out.kept.os.trans (HB5.out.os.trans hM.out.kept.os)))
            · exact hgrow9.tape.trans (hg6.tape.trans (HI.out.kept.tape.trans (HB5.out.tape.trans hM.out.kept.tape)))
            · exact hgrow9.output.trans (hg6.output.trans (HI.out.kept.output.trans (HB5.out.output.trans hM.out.kept.output)))
            · exact (hk9' k hl).trans ((hkW k (by omega) hk.2.2).trans ((HI.out.kept.same k ⟨by omega, hk.2.1, hk.2.2⟩ (by omega)).trans ((HB5.out.block k (by omega)).trans (hM.out.kept.same k hk hl))))
          · refine List.nodup_cons.2 ⟨fun h => ?_, hM.out.nodup⟩
            have := hDs D h
            have := HB5.out.size
            omega
          · intro D' hD'
            have key : ∀ k, k < W'.heap.size → k ≠ w1.heap.size → W'.heap[k]? = some (.deferred (some [])) → w9.heap[k]? = some (.deferred (some [])) := fun k h1 h2 h3 => by
              have h6 := (hkW k h1 h2).trans h3
              exact (hk9 k (by omega) (hnoD k _ h6 rfl)).trans h6
            rcases List.mem_cons.1 hD' with rfl | h
            · exact ⟨key _ hDz (by have := HB5.out.size; omega) HKd.out, by have := HB5.out.size; omega⟩
            · obtain ⟨h1, h2⟩ := hM.out.col D' h
              have h3 := hDs D' h
              have h4 := HB5.out.size
              exact ⟨key D' (by omega) (by omega) ((HI.out.kept.same D' ⟨by omega, by omega, by omega⟩ (by omega)).trans ((HB5.out.block D' h3).trans h1)), h2⟩
          · rw [HYl.out, HYes.out, rowsV_push, HS.out, hM.out.len, HGl.out]
            exact hown9
          · show m - (intOf (.int .i64 ((i : Int) + 1))).toNat < m - (intOf (.int .i64 (i : Int))).toNat
            simp [intOf]
            omega
        case stop =>
          rintro D c' pre W' _ _ h _
          exact h.elim
      · gi_wp2_with (refine ⟨trivial, ?_⟩; gi_at_call 72; refine (callsIn_wide.2 HCon.out).mono ?_; rintro e' w' ⟨rfl, rfl⟩)
        have HNo := hid (show cycX es xs (i + 1) = LS by rw [cycX_no HA.out, HLS.out])
        refine ⟨⟨i + 1, cap, q, Ds, _, _, _, _, _, _, _, _, _, _, _, _, _, _, _, _, _, _, _, _, _, _, _, _, _, _, _, _, _, _, _, _, _, _, _, _, _, by rw [HNo.out, HK0.out]; rfl, by omega, by rw [HNo.out, HS.out, hM.out.len]; exact hM, by rw [HNo.out, HK0.out]; exact hR⟩, ?_⟩
        show m - (intOf (.int .i64 ((i : Int) + 1))).toNat < m - (intOf (.int .i64 (i : Int))).toNat
        simp [intOf]
        omega
    · have him := hid (show i = m by omega)
      gi_wp2
      refine leaves_colls (fun w' => results_tmp rfl _ _ _) Ds W hM.out.nodup (fun D h => (hM.out.col D h).1) (fun w' h1 h2 h3 h4 h5 => ?_)
      have hDs : ∀ D', D' ∈ Ds → w3.heap.size ≤ D' := fun D' h => (hM.out.col D' h).2
      have hLm : cycX es xs m = LS := by rw [← him.out]; exact HLS.out
      refine ⟨q, cap, w1.heap.size, by rw [hLm, HK0.out]; rfl, ?_, ?_, by omega, ?_⟩
      · rw [hLm, HK0.out]
        have h := ownsRow_leave hR.out (w' := w') (fun k cur t fr hk hc => h5 k (fun hin => by
          have hd := (hM.out.col k hin).1
          rw [hd] at hc
          cases hc)) 
        exact row_lessD h (by omega)
      · rw [hLm, HS.out]
        exact hM.out.own.keep (h5 _ (fun hin => by have := hDs _ hin; omega))
      · refine ⟨h1.trans (hM.out.kept.os.trans (HB3.out.os.trans (HB2.out.os.trans HB1.out.os))), h2.trans (hM.out.kept.tape.trans (HB3.out.tape.trans (HB2.out.tape.trans HB1.out.tape))), h3.trans (hM.out.kept.output.trans (HB3.out.output.trans (HB2.out.output.trans HB1.out.output))), by rw [h4]; omega, fun k hk => (h5 k (fun hin => by have := hDs _ hin; omega)).trans (HW0.out k hk)⟩

end Go.Proofs.Ytfdlhdgmbjdhbaa
