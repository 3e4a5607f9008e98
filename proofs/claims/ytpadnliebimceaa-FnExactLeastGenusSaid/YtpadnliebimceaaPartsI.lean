/- Parts in the program: partsOf. -/
import Derived.Test.YtpadnliebimceaaDist
import Derived.Deep.RegionWith
import Derived.Deep.DeepCutAuto
import Derived.Test.YtpadnliebimceaaLead
import Derived.Test.YtpadnliebimceaaOwnMore
import Derived.Test.YtpadnliebimceaaSpecAt
import Derived.Deep.AppendLies
import Derived.Deep.DeepMust

/- DistanceOf in the program. -/
namespace Go.Proofs.Ytpadnliebimceaa
open Go.RowKit

set_option maxRecDepth 100000 in
set_option maxHeartbeats 2000000 in
theorem iNoEdge_any (w : World) : Calls Try.prog 70 #[] w fun e w' => e = .returned (.agg #[.int .i64 0, .int .i64 0]) ∧ Below w.heap.size w w' := by
  go_enter Try.func70, Try.ntmps70
  go_wp2
  exact bodyPost_ret (results_cell_row rfl _ _ w.heap.size _ _ _ _ rfl (heap_alloc_new _ _) Try.underlying85 rfl (by kernel_rfl)) rfl ⟨rfl, on_alloc _ _⟩

/-- Distances with all edges, where no edge joins a vertex to itself. -/
theorem iDistAll_any (N : Nat) (a : Int) (b off n c : Nat) (es : List (Int × Int)) (w : World) (hn : es.length = n) (hn30 : n ≤ 30) (hb : b < w.heap.size) (hr : ReadsE w b off es) (he : EndsIn N es) (hne : ∀ i, i < es.length → eA es i ≠ eB es i) (hN : 1 ≤ N ∧ N ≤ 20) (ha : 0 ≤ a ∧ a < N) :
    Calls Try.prog 139 #[.agg #[.int .i64 N, .slice (some ⟨b, off, none⟩) n c], .int .i64 a, .agg #[.int .i64 0, .int .i64 0]] w fun e w' => ∃ g, e = .returned (.slice (some ⟨g, 0, none⟩) N N) ∧ w.heap.size ≤ g ∧ OwnI w' g N (farF N es (fun _ => true) a) ∧ Below w.heap.size w w' :=
  iDist_any N a 0 0 b off n c es w hn hn30 hb hr he hN ha (fun _ => true) (fun e h => by
    have := hne e h
    by_cases h1 : eA es e = 0
    · have h2 : eB es e ≠ 0 := fun h3 => this (by rw [h1, h3])
      simp [h1, h2]
    · simp [h1])

end Go.Proofs.Ytpadnliebimceaa

/- Parts in memory: a row of rows of numbers. -/
namespace Go.Proofs.Ytpadnliebimceaa
open Go.RowKit

/-- The parts of the first k vertices' leaders lie in memory of the call's own, from block B on. -/
def PartsM (w : World) (B N : Nat) (es : List (Int × Int)) (k K cap : Nat) (q : Option Addr) (vals : List Value) : Prop :=
  w.ownsRow B 25 1 (.slice q K cap) K vals ∧ (leadU N es k).length = K ∧ vals.length = K ∧ (∀ i, i < K → ∃ g m c, vals[i]? = some (.slice (some ⟨g, 0, none⟩) m c) ∧ B ≤ g ∧ (reachU N es ((leadU N es k).getD i 0) N).length = m ∧ OwnI w g c (reachU N es ((leadU N es k).getD i 0) N)) ∧
    ∀ i j g m c g' m' c', i < j → j < K → vals[i]? = some (.slice (some ⟨g, 0, none⟩) m c) → vals[j]? = some (.slice (some ⟨g', 0, none⟩) m' c') → g < g'

theorem partsM_nil (w : World) (B N : Nat) (es : List (Int × Int)) : PartsM w B N es 0 0 0 none [] := ⟨World.ownsRow_nil _ _ _ _, rfl, rfl, fun i hi => by omega, fun i j _ _ _ _ _ _ _ hj => by omega⟩

theorem PartsM.grown {w w' : World} {B N : Nat} {es : List (Int × Int)} {k K cap : Nat} {q : Option Addr} {vals : List Value} (h : PartsM w B N es k K cap q vals) {row : Option Nat} (hg : w.grownBy w' row) (hrow : ∀ r, row = some r → r < B) : PartsM w' B N es k K cap q vals := by
  obtain ⟨h1, h2, h3, h4, h5⟩ := h
  refine ⟨h1.kept hg ?_, h2, h3, fun i hi => ?_, h5⟩
  · cases hq : (Value.slice q K cap).ownBlock with
    | none => exact .inl rfl
    | some b => exact .inr (fun e => by have := (h1.lt b hq).1; have := hrow b e.symm; omega)
  · obtain ⟨g, m, c, e1, e2, e3, e4⟩ := h4 i hi
    exact ⟨g, m, c, e1, e2, e3, e4.keep (hg.block g e4.lt (fun e => by have := hrow g e.symm; omega))⟩

theorem row_ne {w : World} {B n g cap c : Nat} {q : Option Addr} {vals : List Value} {xs : List Int} (h : w.ownsRow B 25 1 (.slice q n c) n vals) (hO : OwnI w g cap xs) : some g ≠ (Value.slice q n c).ownBlock := fun e => by
  rcases h.2 with ⟨hv, _⟩ | ⟨b, cap', cur, hv, _, hg, _⟩
  · rw [hv] at e; cases e
  · rw [hv] at e
    have e1 : g = b := Option.some.inj e
    subst e1
    obtain ⟨cur', hc', _⟩ := hO
    have e2 := Option.some.inj (hg.symm.trans hc')
    injection e2 with _ e3
    exact absurd e3 (by decide)

theorem getD_append_lt {L : List Nat} {x i : Nat} (h : i < L.length) : (L ++ [x]).getD i 0 = L.getD i 0 := by
  rw [List.getD_eq_getElem?_getD, List.getD_eq_getElem?_getD, List.getElem?_append_left h]
theorem getD_append_last (L : List Nat) (x : Nat) : (L ++ [x]).getD L.length 0 = x := by
  rw [List.getD_eq_getElem?_getD, List.getElem?_append_right (Nat.le_refl _)]
  simp

theorem PartsM.lt {w : World} {B N : Nat} {es : List (Int × Int)} {k K cap : Nat} {q : Option Addr} {vals : List Value} (h : PartsM w B N es k K cap q vals) {i g m c : Nat} (hi : i < K) (hv : vals[i]? = some (.slice (some ⟨g, 0, none⟩) m c)) : g < w.heap.size := by
  obtain ⟨g', m', c', e1, e2, e3, e4⟩ := h.2.2.2.1 i hi
  have e := Option.some.inj (hv.symm.trans e1)
  injection e with e5
  simp only [Option.some.injEq, Addr.mk.injEq] at e5
  rw [e5.1]
  exact e4.lt

theorem PartsM.push {w w' : World} {B N : Nat} {es : List (Int × Int)} {k K cap cap' m c gp g : Nat} {q : Option Addr} {vals : List Value} (h : PartsM w B N es k K cap q vals) (hl : leadB N es k = true)
    (hO : OwnI w gp c (reachU N es k N)) (hB : B ≤ gp) (hlow : ∀ i g m c, i < K → vals[i]? = some (.slice (some ⟨g, 0, none⟩) m c) → g < gp) (hm : (reachU N es k N).length = m)
    (hown : w'.ownsRow B 25 1 (.slice (some ⟨g, 0, none⟩) (K + 1) cap') (K + 1) (vals ++ [.slice (some ⟨gp, 0, none⟩) m c])) (hg : w.grownBy w' (Value.slice q K cap).ownBlock) :
    PartsM w' B N es (k + 1) (K + 1) cap' (some ⟨g, 0, none⟩) (vals ++ [.slice (some ⟨gp, 0, none⟩) m c]) := by
  obtain ⟨h1, h2, h3, h4, h5⟩ := h
  refine ⟨hown, by rw [leadU_yes hl, List.length_append, h2]; rfl, by rw [List.length_append, h3]; rfl, fun i hi => ?_, fun i j g m c g' m' c' hij hj hi hv => ?_⟩
  rotate_left
  · rcases Nat.lt_or_ge j K with hj' | hj'
    · rw [List.getElem?_append_left (by omega)] at hi hv
      exact h5 i j g m c g' m' c' hij hj' hi hv
    · obtain rfl : j = K := by omega
      rw [List.getElem?_append_left (by omega)] at hi
      rw [List.getElem?_append_right (by omega), h3, Nat.sub_self] at hv
      have e := Option.some.inj hv
      injection e with e5
      simp only [Option.some.injEq, Addr.mk.injEq] at e5
      rw [← e5.1]
      exact hlow i g m c hij hi
  rw [leadU_yes hl]
  have hk : ∀ {g' c' : Nat} {xs : List Int}, OwnI w g' c' xs → OwnI w' g' c' xs := fun hO' => hO'.keep (hg.block _ hO'.lt (row_ne h1 hO'))
  rcases Nat.lt_or_ge i K with hi' | hi'
  · obtain ⟨g', m', c', e1, e2, e3, e4⟩ := h4 i hi'
    rw [getD_append_lt (by omega), List.getElem?_append_left (by omega)]
    exact ⟨g', m', c', e1, e2, e3, hk e4⟩
  · obtain rfl : i = K := by omega
    have hgd : (leadU N es k ++ [k]).getD i 0 = k := by
      have := getD_append_last (leadU N es k) k
      rwa [h2] at this
    rw [hgd]
    refine ⟨gp, m, c, ?_, hB, hm, hk hO⟩
    rw [List.getElem?_append_right (by omega), h3, Nat.sub_self]
    rfl

theorem PartsM.skip {w : World} {B N : Nat} {es : List (Int × Int)} {k K cap : Nat} {q : Option Addr} {vals : List Value} (h : PartsM w B N es k K cap q vals) (hl : leadB N es k = false) : PartsM w B N es (k + 1) K cap q vals := by
  unfold PartsM at h ⊢
  rw [leadU_no hl]
  exact h

/-- Marks that go on: block g is written, and blocks beyond are new or lie beyond. -/
theorem grown_two {w0 w1 w2 : World} {g r : Nat} {row : Option Nat} (h : w0.grownBy w1 (some g)) (k : w1.grownBy w2 row) (hrow : ∀ j, row = some j → j = g ∨ w0.heap.size ≤ j) (_ : r = r) : w0.grownBy w2 (some g) := by
  refine ⟨k.os.trans h.os, k.tape.trans h.tape, k.output.trans h.output, Nat.le_trans h.size k.size, fun i hi hne => ?_⟩
  have h1 := h.block i hi hne
  refine (k.block i (Nat.lt_of_lt_of_le hi h.size) (fun e => ?_)).trans h1
  rcases hrow i e.symm with h2 | h2
  · exact hne (by rw [h2])
  · omega
theorem grown_refl (w : World) (row : Option Nat) : w.grownBy w row := ⟨rfl, rfl, rfl, Nat.le_refl _, fun _ _ _ => rfl⟩

/-- A leader's vertices are those to which ways lead. -/
theorem lead_reach {N : Nat} {es : List (Int × Int)} {xs : List Int} (he : EndsIn N es) (h : IsLead N es xs) {v w : Nat} (hv : v < N) (hw : w < N) (hl : leadB N es v = true) : (eI xs w == (v : Int)) = reachB N es v w := by
  have hxv : eI xs v = (v : Int) := by
    have := h.at_lead he hv
    rw [hl] at this
    simpa using this
  have h1 : eI xs w = (v : Int) ↔ reachB N es v w = true := by
    rw [reachB_iff he hv hw]
    refine ⟨fun e => ?_, fun hc => ?_⟩
    · have := (h.1.at_ w hw).2.2
      rw [e] at this
      exact this.symm
    · rw [← h.conn he hv hc, hxv]
  cases hb : reachB N es v w
  · rw [hb] at h1
    simp at h1
    simpa using h1
  · rw [hb] at h1
    simpa using h1

end Go.Proofs.Ytpadnliebimceaa

namespace Go.Proofs.Ytpadnliebimceaa
open Go.RowKit

theorem infoSl : (Try.prog.info? 25).map (fun i => (i.zero, i.size, i.bytes)) = some (some (.slice none 0 0), 1, 24) := by kernel_rfl
theorem infoBo : (Try.prog.info? 4).map (fun i => (i.zero, i.size, i.bytes)) = some (some (.bool false), 1, 1) := by kernel_rfl

def PartsPost (N : Nat) (es : List (Int × Int)) (w : World) (e : Ending) (w' : World) : Prop :=
  ∃ q cap vals, e = .returned (.slice q (numP N es) cap) ∧ PartsM w' w.heap.size N es N (numP N es) cap q vals ∧ Below w.heap.size w w'

theorem PartsM.less {w : World} {B B' N : Nat} {es : List (Int × Int)} {k K cap : Nat} {q : Option Addr} {vals : List Value} (h : PartsM w B N es k K cap q vals) (hB : B' ≤ B) : PartsM w B' N es k K cap q vals := by
  obtain ⟨h1, h2, h3, h4, h5⟩ := h
  refine ⟨?_, h2, h3, fun i hi => ?_, h5⟩
  · refine ⟨h1.1, ?_⟩
    rcases h1.2 with hn | ⟨g, c, cur, hv, hb, r⟩
    · exact .inl hn
    · exact .inr ⟨g, c, cur, hv, Nat.le_trans hB hb, r⟩
  · obtain ⟨g, m, c, e1, e2, e3, e4⟩ := h4 i hi
    exact ⟨g, m, c, e1, by omega, e3, e4⟩

theorem reach_self {N : Nat} {es : List (Int × Int)} {v : Nat} (he : EndsIn N es) (hv : v < N) : 1 ≤ (reachU N es v N).length := by
  have h : (v : Int) ∈ reachU N es v N := by
    unfold reachU
    exact List.mem_map.2 ⟨v, List.mem_filter.2 ⟨List.mem_range.2 hv, (reachB_iff he hv hv).2 (Conn.refl _ _)⟩, rfl⟩
  have := List.length_pos_of_mem h
  omega

theorem placed_mid {N : Nat} {es : List (Int × Int)} {k j : Nat} {ms : List Bool} (hl : ms.length = N) (hj : j < N)
    (h : ∀ x, x < N → eL ms x = (placedB N es k x || (decide (x < j) && reachB N es k x))) (hr : reachB N es k j = true) : ∀ x, x < N → eL (ms.set j true) x = (placedB N es k x || (decide (x < j + 1) && reachB N es k x)) := fun x hx => by
  rw [eL_set (by omega)]
  by_cases e : x = j
  · subst e
    simp [hr]
  · rw [if_neg e, h x hx]
    congr 2
    by_cases h1 : x < j
    · simp [h1]; omega
    · simp [h1]; omega
theorem placed_mid_no {N : Nat} {es : List (Int × Int)} {k j : Nat} {ms : List Bool}
    (h : ∀ x, x < N → eL ms x = (placedB N es k x || (decide (x < j) && reachB N es k x))) (hr : reachB N es k j = false) : ∀ x, x < N → eL ms x = (placedB N es k x || (decide (x < j + 1) && reachB N es k x)) := fun x hx => by
  rw [h x hx]
  by_cases e : x = j
  · subst e
    simp [hr]
  · congr 2
    by_cases h1 : x < j
    · simp [h1]; omega
    · simp [h1]; omega

set_option maxRecDepth 100000 in
set_option maxHeartbeats 16000000 in
theorem iParts_any (N : Nat) (b off n c : Nat) (es : List (Int × Int)) (w : World) (hn : es.length = n) (hn30 : n ≤ 30) (hb : b < w.heap.size) (hr : ReadsE w b off es) (he : EndsIn N es) (hne : ∀ i, i < es.length → eA es i ≠ eB es i) (hN : 1 ≤ N ∧ N ≤ 20) :
    Calls Try.prog 111 #[.agg #[.int .i64 N, .slice (some ⟨b, off, none⟩) n c]] w (PartsPost N es w) := by
  have HN := hid hN
  obtain ⟨hN1, hN2⟩ := hN
  have Hn := hid hn
  have Hr := hid hr
  have EI := hid he
  have HNE := hid hne
  obtain ⟨i0, hi, hz0, hz1, hz2⟩ := info_parts infoBo
  obtain ⟨j0, hj, hy0, hy1, hy2⟩ := info_parts infoInt
  obtain ⟨s0, hs, hs0, hs1, hs2⟩ := info_parts infoSl
  have Hi := hid hi
  have Hj := hid hj
  have Hs := hid hs
  clear hn hr he hne hi hj hs
  go_enter Try.func111, Try.ntmps111
  have HX0 := hid (Box.new w N (some ⟨b, off, none⟩) n c 24)
  have HB0 := hid (on_alloc w (.cells #[.int .i64 N, .slice (some ⟨b, off, none⟩) n c] 24))
  obtain ⟨w2, hw2⟩ : ∃ w2, w2 = w.alloc (.cells #[.int .i64 N, .slice (some ⟨b, off, none⟩) n c] 24) := ⟨_, rfl⟩
  rw [← hw2] at HX0 HB0
  have hz2' := HX0.out.lt
  go_wp2_with (at_make; rw [← hw2]; clear hw2; refine wpList_make_full _ rfl _ _ 70 rfl w2.heap.size 4 i0 (.bool false) 1 Try.underlying70 Hi.out hz0 hz1 _ _ _ _ N rfl rfl rfl rfl (by rw [hz2]; omega) (by unfold maxLen; omega) (Nat.le_refl _) ?_; intro w3 hown hgrow; have hX3 := HX0.out.on ((Below.refl w2.heap.size w2).grown hgrow (Nat.le_refl _) (fun k e => by cases e)); have hx3 := hX3.1; have hz3 := hX3.lt)
  have Ho := hid (OwnB.made hown)
  have Hb3 := hid ((Below.refl w2.heap.size w2).grown hgrow (Nat.le_refl _) (fun k e => by cases e))
  clear hown hgrow hX3 hx3 hz3
  go_loopw [3, 14] (fun u v wr => ∃ (k K cap : Nat) (q : Option Addr) (vals : List Value) (ms : List Bool), k ≤ N ∧ K ≤ k ∧ u = .slice q K cap ∧ v = .int .i64 k ∧ Hid (PartsM wr (w2.heap.size + 1) N es k K cap q vals) ∧ Hid (ms.length = N ∧ (∀ x, x < N → eL ms x = placedB N es k x) ∧ OwnB wr w2.heap.size N ms) ∧ Hid (Below w2.heap.size w2 wr)) (fun _ v _ => N - (intOf v).toNat)
  case atStart => exact ⟨0, 0, 0, none, [], List.replicate N false, Nat.zero_le _, Nat.le_refl _, rfl, rfl, hid (partsM_nil _ _ _ _), hid ⟨List.length_replicate, fun x hx => by rw [eL_lt (by simpa using hx)]; simp [placedB], Ho.out⟩, Hb3⟩
  case round =>
    obtain ⟨k, K, cap, q, vals, ms, hk, hKk, rfl, rfl, hP, hM, hB⟩ := hrel
    clear Ho Hb3
    by_cases hlt : k < N
    · have HXr := hid (HX0.out.on hB.out)
      have hxr := HXr.out.1
      have hyr := HXr.out.2
      have hzr := HXr.out.lt
      have hcm := hM.out.2.2.cell (i := k) (by rw [hM.out.1]; exact hlt)
      rw [hM.out.2.1 k hlt, placedB_lead EI.out hlt] at hcm
      have hgz := hM.out.2.2.lt
      have hlt' : (k : Int) < (N : Int) := by omega
      cases hlb : leadB N es k
      · rw [hlb] at hcm
        have HLb := hid hlb
        have hcm' : wr.cell? ⟨w2.heap.size, k, none⟩ = some (.bool true) := hcm
        clear hlb hcm hxr hyr hzr
        go_wp2
        go_roundw
        case rel => exact ⟨k + 1, K, cap, q, vals, ms, by omega, by omega, rfl, by go_num, hid (PartsM.skip hP.out HLb.out), hid ⟨hM.out.1, fun x hx => by rw [placedB_no HLb.out]; exact hM.out.2.1 x hx, hM.out.2.2⟩, hB⟩
        case measure => simp [intOf]; omega
      · rw [hlb] at hcm
        have HLb := hid hlb
        have hcm' : wr.cell? ⟨w2.heap.size, k, none⟩ = some (.bool false) := hcm
        have HBw := hid (bfrom HB0.out hB.out)
        have hwz := HBw.out.size
        clear hlb hcm
        obtain ⟨wo, rfl⟩ : ∃ wo : World, wo = wr := ⟨_, rfl⟩
        go_upto_region 8 with fail
        go_cut [24, 25, 26] (fun z l i wx => ∃ gf, z = .slice (some ⟨gf, 0, none⟩) N N ∧ l = .int .i64 N ∧ i = .int .i64 0 ∧ Hid (wo.heap.size ≤ gf ∧ OwnI wx gf N (farF N es (fun _ => true) k) ∧ Below wo.heap.size wo wx))
        case first =>
          go_region_with (first
            | (go_at_call 70; refine (iNoEdge_any _).mono ?_; rintro e' w3 ⟨rfl, hb3⟩; have hc3 := ((bcells hb3).1 _ _ hzr).trans hxr; have hd3 := ((bcells hb3).1 _ _ hzr).trans hyr; have hb3' : Below wo.heap.size wo w3 := bfrom (Below.refl _ _).drew hb3)
            | (go_at_call 139; refine (iDistAll_any N k b off n c es _ Hn.out hn30 (by have := hb3'.size; omega) (Hr.out.on (bfrom HBw.out hb3')) EI.out HNE.out HN.out (by omega)).mono ?_; rintro e' w4 ⟨gg, rfl, hgg, ho4, hb4⟩; have hb4' : Below wo.heap.size wo w4 := bfrom hb3' hb4; have hgg' : wo.heap.size ≤ gg := Nat.le_trans hb3'.size hgg))
          all_goals
            go_wp2_with fail
            go_meet
            exact ⟨gg, rfl, rfl, rfl, hid ⟨hgg', by first | exact ho4 | exact OwnI.drewN ho4, by first | exact hb4' | exact bdn.mpr hb4'⟩⟩
        case rest =>
        obtain ⟨gf, rfl, rfl, rfl, hcb⟩ := hcut
        obtain ⟨w5, rfl⟩ : ∃ w5, w5 = wc := ⟨_, rfl⟩
        have HF := hid hcb.out.2.1
        have hgf := hcb.out.1
        have HB5 := hid (hB.out.trans (hcb.out.2.2.mono hB.out.size))
        have HM5 := hid (hM.out.2.2.on hcb.out.2.2)
        have HP5 := hid (hP.out.grown (grown_below hcb.out.2.2) (fun r e => by cases e))
        have hgz5 := HM5.out.lt
        have hfl := farF_len (keep := fun _ => true) EI.out (a := (k : Int)) (by omega)
        have HFl := hid hfl
        clear hcb hfl hxr hyr hzr hcm'
        go_wp2
        go_loopw [6, 26] (fun u v wx => ∃ (j l cap : Nat) (q : Option Addr) (ms' : List Bool), j ≤ N ∧ l ≤ j ∧ u = .slice q l cap ∧ v = .int .i64 j ∧ Hid (wx.ownsRow w5.heap.size 2 1 (.slice q l cap) l (intVals (reachU N es k j)) ∧ (reachU N es k j).length = l) ∧ Hid (ms'.length = N ∧ (∀ x, x < N → eL ms' x = (placedB N es k x || (decide (x < j) && reachB N es k x))) ∧ OwnB wx w2.heap.size N ms') ∧ Hid (w5.grownBy wx (some w2.heap.size))) (fun _ v _ => N - (intOf v).toNat)
        case atStart => exact ⟨0, 0, 0, none, ms, Nat.zero_le _, Nat.le_refl _, rfl, rfl, hid ⟨World.ownsRow_nil _ _ _ _, rfl⟩, hid ⟨hM.out.1, fun x hx => by rw [hM.out.2.1 x hx]; simp, HM5.out⟩, hid (grown_refl _ _)⟩
        case round =>
          obtain ⟨j, l, capj, qj, ms', hj, hlj, rfl, rfl, hO, hMj, hG⟩ := hrel
          have hgzj := hMj.out.2.2.lt
          have hsz := hG.out.size
          by_cases hltj : j < N
          · have HFj := hid (HF.out.grown hG.out (by omega))
            have hcf := HFj.out.reads j (by rw [HFl.out]; exact hltj)
            rw [Nat.zero_add] at hcf
            have hgfz := HFj.out.lt
            obtain ⟨y, hy⟩ : ∃ y, eI (farF N es (fun _ => true) k) j = y := ⟨_, rfl⟩
            rw [hy] at hcf
            obtain ⟨rb, hrb⟩ : ∃ rb, reachB N es k j = rb := ⟨_, rfl⟩
            have hyb : (y != -1) = rb := by rw [← hrb]; unfold reachB; rw [hy]
            have HRB := hid hrb
            clear hy hrb
            have hfr := hMj.out.2.2.free j
            have hcpl := hMj.out.2.2.cell (i := j) (by rw [hMj.out.1]; exact hltj)
            obtain ⟨wi, rfl⟩ : ∃ wi : World, wi = wr := ⟨_, rfl⟩
            cases rb
            · go_wp2
              go_roundw
              case rel => exact ⟨j + 1, l, capj, qj, ms', by omega, by omega, rfl, by go_num, hid (by rw [reachU_no HRB.out]; exact hO.out), hid ⟨hMj.out.1, placed_mid_no hMj.out.2.1 HRB.out, hMj.out.2.2⟩, hG⟩
              case measure => simp [intOf]; omega
            · have hl31 : l + 1 ≤ 31 := by omega
              have HRow := hid (World.ownsRow.alloc (ownsRow_setCell_below hO.out.1 (a := ⟨w2.heap.size, j, none⟩) hgz5 (.bool true)) (.cells #[.int .i64 j] 2))
              have HSz := hid (show (wi.setCell ⟨w2.heap.size, j, none⟩ (.bool true)).heap.size = wi.heap.size by simp [World.setCell])
              have HNew := hid (show ((wi.setCell ⟨w2.heap.size, j, none⟩ (.bool true)).alloc (.cells #[.int .i64 j] 2)).heap[wi.heap.size]? = some (.cells #[.int .i64 j] 2 (0, 0)) by rw [← HSz.out]; exact heap_alloc_new _ _)
              go_wp2_with (at_builtin; go_must (refine wpList_append_lies _ rfl (.tmp 36) (.tmp 38) 25 rfl w5.heap.size 2 j0 (.int .i64 0) 1 8 Try.underlying25 Hj.out hy0 hy1 hy2 rfl (by decide) (.slice qj l capj) l _ rfl HRow.out ⟨wi.heap.size, 0, none⟩ 1 1 [.int .i64 j] rfl rfl (World.news_of_block (cs := #[.int .i64 j]) (t := 2) (fr := (0, 0)) HNew.out) (by simp [Value.oneCell']) (by decide) (by unfold maxLen; omega) (by omega) (by rw [World.size_alloc, HSz.out]; omega) (wi.heap.size + 1) (by rw [World.size_alloc, HSz.out]) ?_); intro g7 cap7 w7 hown7 hgrow7 hlie7 hg7; have Hown := hid hown7; have Hgrow := hid hgrow7; clear hown7 hgrow7 hlie7)
              have hrow : ∀ j', (Value.slice qj l capj).ownBlock = some j' → w5.heap.size ≤ j' ∧ j' < wi.heap.size := hO.out.1.lt
              go_roundw
              case rel =>
                refine ⟨j + 1, l + 1, cap7, some ⟨g7, 0, none⟩, ms'.set j true, by omega, by omega, rfl, by go_num, hid ⟨?_, ?_⟩, hid ⟨by rw [List.length_set]; exact hMj.out.1, placed_mid hMj.out.1 hltj hMj.out.2.1 HRB.out, ?_⟩, hid ?_⟩
                · rw [reachU_yes HRB.out, intVals_append]; exact Hown.out
                · rw [reachU_yes HRB.out, List.length_append, hO.out.2]; rfl
                · exact OwnB.keep ((OwnB.set hMj.out.2.2 (by rw [hMj.out.1]; exact hltj) true).alloc (.cells #[.int .i64 j] 2)) (Hgrow.out.block _ (by rw [World.size_alloc, HSz.out]; omega) (fun e => by have := (hrow _ e.symm).1; omega))
                · exact grown_two (grown_two (gset hG.out j (.bool true)) (World.grownBy_alloc _ (.cells #[.int .i64 j] 2) none) (fun _ e => by cases e) (rfl : 0 = 0)) Hgrow.out (fun j' e => .inr (hrow j' e).1) (rfl : 0 = 0)
              case measure => simp [intOf]; omega
          · obtain ⟨wi, rfl⟩ : ∃ wi : World, wi = wr := ⟨_, rfl⟩
            have hjN := hid (show j = N by omega)
            have hrl := reach_self EI.out hlt
            have HLn := hid (show (reachU N es k N).length = l by have h := hO.out.2; rw [hjN.out] at h; exact h)
            have hl1 : 1 ≤ l := by have := HLn.out; omega
            obtain ⟨gp, rfl, hgp, hOp⟩ : ∃ g, qj = some ⟨g, 0, none⟩ ∧ w5.heap.size ≤ g ∧ OwnI wi g capj (reachU N es k N) := by
              have hF : FreshI w5.heap.size wi qj l capj (reachU N es k N) := by
                have h := hO.out
                rw [hjN.out] at h
                exact h
              rcases hF.form with ⟨_, h, _⟩ | h
              · omega
              · exact h
            have HOp := hid hOp
            have HPi := hid (hP.out.grown (grown_below (show Below wo.heap.size wo wo from Below.refl _ _)) (fun r e => by cases e))
            have HPw := hid (HP5.out.grown hG.out (fun r e => by cases e; omega))
            have hK31 : K + 1 ≤ 31 := by omega
            clear hOp hrl
            have HPa := hid (HPw.out.grown (World.grownBy_alloc wi (.cells #[.slice (some ⟨gp, 0, none⟩) l capj] 25) none) (fun r e => by cases e))
            go_wp2_with (at_builtin; go_must (refine wpList_append_lies _ rfl (.tmp 41) (.tmp 43) 41 rfl (w2.heap.size + 1) 25 s0 (.slice none 0 0) 1 24 Try.underlying41 Hs.out hs0 hs1 hs2 rfl (by decide) (.slice q K cap) K vals rfl HPa.out.1 ⟨wi.heap.size, 0, none⟩ 1 1 [.slice (some ⟨gp, 0, none⟩) l capj] rfl rfl (World.news_of_block (cs := #[.slice (some ⟨gp, 0, none⟩) l capj]) (t := 25) (fr := (0, 0)) (heap_alloc_new _ _)) (by simp [Value.oneCell']) (by decide) (by unfold maxLen; omega) (by omega) (by simp; omega) (wi.heap.size + 1) (by simp) ?_); intro g8 cap8 w8 hown8 hgrow8 hlie8 hg8; have Hown8 := hid hown8; have Hgrow8 := hid hgrow8; clear hown8 hgrow8 hlie8)
            have hrow8 : ∀ j', (Value.slice q K cap).ownBlock = some j' → w2.heap.size + 1 ≤ j' ∧ j' < (wi.alloc (.cells #[.slice (some ⟨gp, 0, none⟩) l capj] 25)).heap.size := HPa.out.1.lt
            go_roundw
            case rel =>
              refine ⟨k + 1, K + 1, cap8, some ⟨g8, 0, none⟩, _, ms', by omega, by omega, rfl, by go_num, hid (PartsM.push HPa.out HLb.out (HOp.out.alloc _) (by omega) (fun i' g' m' c' hi' hv' => Nat.lt_of_lt_of_le (HP5.out.lt hi' hv') hgp) HLn.out Hown8.out Hgrow8.out), hid ⟨hMj.out.1, fun x hx => ?_, ?_⟩, hid ?_⟩
              · rw [hMj.out.2.1 x hx, placedB_yes HLb.out, hjN.out]
                simp [hx]
              · exact OwnB.keep (hMj.out.2.2.alloc (.cells #[.slice (some ⟨gp, 0, none⟩) l capj] 25)) (Hgrow8.out.block _ (by rw [World.size_alloc]; omega) (fun e => by have := (hrow8 _ e.symm).1; omega))
              · exact ((HB5.out.grown hG.out (by omega) (fun j' e => by cases e; exact Nat.le_refl _)).alloc (by omega) _).grown Hgrow8.out (by rw [World.size_alloc]; omega) (fun j' e => by have := (hrow8 j' e).1; omega)
            case measure => simp [intOf]; omega
    · obtain ⟨wo, rfl⟩ : ∃ wo : World, wo = wr := ⟨_, rfl⟩
      have hkN := hid (show k = N by omega)
      have HPN := hid (show PartsM wo (w2.heap.size + 1) N es N K cap q vals by have h := hP.out; rw [hkN.out] at h; exact h)
      go_wp2
      go_ret
      have hK : numP N es = K := HPN.out.2.1
      exact (show PartsPost N es w _ wo from ⟨q, cap, vals, by rw [hK]; rfl, by rw [hK]; exact HPN.out.less (by have := HB0.out.size; omega), bfrom HB0.out hB.out⟩)

end Go.Proofs.Ytpadnliebimceaa
