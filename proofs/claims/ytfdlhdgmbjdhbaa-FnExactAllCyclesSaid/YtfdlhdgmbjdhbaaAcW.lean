/- All cycles in the model: the search. -/
import Derived.Test.YtfdlhdgmbjdhbaaAcS
import Derived.Deep.RegionWith
import Derived.Deep.DeepCutAuto
namespace Go.Proofs.Ytfdlhdgmbjdhbaa
open Go.RowKit Go.Lib

/-- What a call of the search is given. -/
structure AcPreS (N b off E r : Nat) (es : List (Int × Int)) (way : List Int) (v : Int) (M : List Int) (ms : List Bool) (bl ol gm : Nat) (w : World) : Prop where
  rd : ReadsE w b off es
  bb : b < w.heap.size
  rl : ReadsI w bl ol way
  bll : bl < w.heap.size
  hm : OwnB w gm N ms
  nbl : bl ≠ gm
  nb : b ≠ gm
  len : way.length = M.length + 1
  cnt : M.length + r = N
  fst : eI way 0 = (E : Int)
  vr : 0 ≤ v ∧ v < (N : Int)
  nd : (v :: M).Nodup
  mr : ∀ x, x ∈ M → 0 ≤ x ∧ x < (N : Int)
  sz : ms.length = N
  ar : ∀ i : Nat, i < N → eL ms i = decide ((i : Int) ∈ v :: M)
/-- What it hands back. -/
def AcPostS (N : Nat) (es : List (Int × Int)) (E r : Nat) (way : List Int) (v : Int) (M : List Int) (ms : List Bool) (gm : Nat) (w : World) (e : Ending) (w' : World) : Prop :=
  ∃ (q : Option Addr) (c : Nat) (ps : List AcP), e = .returned (.slice q ps.length c) ∧ w'.ownsRow w.heap.size 41 1 (.slice q ps.length c) ps.length (ps.map acV) ∧ ps.map (fun p => p.2.2) = acF es E r way v M ∧ AcAt w' w.heap.size ps ∧ w.grownBy w' (some gm) ∧ OwnB w' gm N ms

theorem onL_nthA {N : Nat} {es : List (Int × Int)} (g : IsG N es) {v : Int} (hv : 0 ≤ v ∧ v < (N : Int)) {k : Nat} (hk : k < 3) : ∃ F, (onL es v)[k]? = some F ∧ F < es.length ∧ onE es v F = true ∧ eI (atF es v) k = (F : Int) := by
  have h3 := atF_three g hv.1 hv.2
  rw [onL_at, List.length_map] at h3
  have hm : (onL es v)[k] ∈ onL es v := List.getElem_mem _
  refine ⟨(onL es v)[k], List.getElem?_eq_getElem _, (onL_mem.1 hm).1, (onL_mem.1 hm).2, ?_⟩
  rw [onL_at, eI_lt (by rw [List.length_map]; omega), List.getElem_map]

set_option maxRecDepth 100000 in
set_option maxHeartbeats 8000000 in
theorem sAc_leaf (N b off n c E r : Nat) (es : List (Int × Int)) (g : IsG N es) (way : List Int) (v : Int) (M : List Int) (ms : List Bool) (bl ol cl gm : Nat) (w : World) (hp : AcPreS N b off E (r + 1) es way v M ms bl ol gm w) (hv : v = eA es E) :
    Calls Try.prog 81 #[.agg #[.int .i64 N, .slice (some ⟨b, off, none⟩) n c], .slice (some ⟨bl, ol, none⟩) way.length cl, .int .i64 v, .int .i64 (eA es E), .slice (some ⟨gm, 0, none⟩) N N] w (AcPostS N es E (r + 1) way v M ms gm w) := by
  have hN20 : N ≤ 20 := by have := g.1.1.2.1; omega
  have HP := hid hp
  obtain ⟨l, hl⟩ : ∃ l, way.length = l := ⟨_, rfl⟩
  have hl1 : 0 < l := by have := hp.len; omega
  have hl20 : l ≤ 21 := by have := hp.len; have := hp.cnt; omega
  obtain ⟨T, hT⟩ : ∃ T, eA es E = T := ⟨_, rfl⟩
  have hvT : (v == T) = true := by rw [hv, hT]; simp
  have HL := hid hl
  have HV := hid hv
  rw [hl, hT]
  clear hp hl hT hv g
  go_enter Try.func81, Try.ntmps81
  go_wp2_with fail
  refine (sSort7_any bl ol l cl way _ HL.out (by omega) (HP.out.rl.on (on_alloc _ _)) (by have := HP.out.bll; simp; omega)).mono ?_
  rintro e' w3 ⟨q3, cap3, rfl, hf3, hb3⟩
  obtain ⟨g3, rfl, hg3, ho3⟩ := fresh_some hf3 hl1
  have HB3 := hid (bfrom (w := w) (on_alloc _ _) hb3)
  have HO3 := hid ho3
  rw [World.size_alloc] at hg3
  clear hf3 hb3 ho3
  go_wp2
  go_ret
  have hz4 := HB3.out.size
  have hB5 := bfrom HB3.out (on_alloc w3 (.cells #[.slice (some ⟨g3, 0, none⟩) l cap3] 41))
  have hls : (srtA way).length = l := by rw [srtA_len]; exact HL.out
  refine ⟨some ⟨w3.heap.size, 0, none⟩, 1, [(g3, cap3, srtA way)], rfl, ?_, ?_, AcAt.one (HO3.out.alloc _) (by omega), grownA hB5 _, HP.out.hm.on hB5⟩
  · have h := own_oneA w3 w.heap.size w3.heap.size (.slice (some ⟨g3, 0, none⟩) l cap3) hz4 rfl
    show World.ownsRow _ _ _ _ _ _ [acV (g3, cap3, srtA way)]
    unfold acV
    dsimp only
    rw [hls]
    exact h
  · rw [acF_end HV.out]
    rfl

/-- What lies there while the edges at a vertex are gone through. -/
structure StW (w : World) (N b off n c ge ca gm D : Nat) (s : Int) (es : List (Int × Int)) (E r : Nat) (way : List Int) (v : Int) (M : List Int) (ms : List Bool) (k : Nat) (q : Option Addr) (cap : Nat) (ps : List AcP) (W : World) : Prop where
  row : W.ownsRow D 41 1 (.slice q ps.length cap) ps.length (ps.map acV)
  con : ps.map (fun p => p.2.2) = acU es E r way v M ((onL es v).take k)
  rows : AcAt W D ps
  ed : OwnI W ge ca (atF es v)
  bx : W.heap[w.heap.size]? = some (.cells #[.int .i64 s, .slice (some ⟨b, off, none⟩) n c] 28 (0, 0))
  mrk : OwnB W gm N ms
  k : w.grownBy W (some gm)
theorem grownA_below {a b c : World} {row : Option Nat} (h : a.grownBy b row) (k : Below b.heap.size b c) : a.grownBy c row := grownA_trans h (grownA k row)
theorem StW.on {w : World} {N b off n c ge ca gm D : Nat} {s : Int} {es : List (Int × Int)} {E r : Nat} {way : List Int} {v : Int} {M : List Int} {ms : List Bool} {k : Nat} {q : Option Addr} {cap : Nat} {ps : List AcP} {W W' : World} (h : StW w N b off n c ge ca gm D s es E r way v M ms k q cap ps W) (hb : Below W.heap.size W W') : StW w N b off n c ge ca gm D s es E r way v M ms k q cap ps W' :=
  ⟨rowN_same h.row (fun i _ _ _ _ hc => hb.block i (Array.getElem?_eq_some_iff.1 hc).1), h.con, h.rows.same (fun i _ _ _ hc => hb.block i (Array.getElem?_eq_some_iff.1 hc).1), h.ed.on hb, (hb.block _ (Array.getElem?_eq_some_iff.1 h.bx).1).trans h.bx, h.mrk.on hb, grownA_below h.k hb⟩
theorem StW.no {w : World} {N b off n c ge ca gm D : Nat} {s : Int} {es : List (Int × Int)} {E r : Nat} {way : List Int} {v : Int} {M : List Int} {ms : List Bool} {k F : Nat} {q : Option Addr} {cap : Nat} {ps : List AcP} {W : World} (h : StW w N b off n c ge ca gm D s es E r way v M ms k q cap ps W) (hF : (onL es v)[k]? = some F) (hT : acT es E v M F = false) : StW w N b off n c ge ca gm D s es E r way v M ms (k + 1) q cap ps W :=
  ⟨h.row, by rw [List.take_add_one, hF, h.con]; exact (acU_no hT).symm, h.rows, h.ed, h.bx, h.mrk, h.k⟩
theorem StW.set {w : World} {N b off n c ge ca gm D U : Nat} {s : Int} {es : List (Int × Int)} {E r : Nat} {way : List Int} {v : Int} {M : List Int} {ms : List Bool} {k : Nat} {q : Option Addr} {cap : Nat} {ps : List AcP} {W : World} (h : StW w N b off n c ge ca gm D s es E r way v M ms k q cap ps W) (hU : U < ms.length) (hgm : gm < w.heap.size) (hD : w.heap.size < D) (hge : w.heap.size < ge) (x : Bool) :
    StW w N b off n c ge ca gm D s es E r way v M (ms.set U x) k q cap ps (W.setCell ⟨gm, U, none⟩ (.bool x)) :=
  ⟨rowN_same h.row (fun i cur t fr hi _ => heap_setCell_other _ _ _ _ (by show i ≠ gm; omega)), h.con, h.rows.same (fun i _ _ hi _ => heap_setCell_other _ _ _ _ (by show i ≠ gm; omega)), h.ed.far (by show ge ≠ gm; omega) _, (heap_setCell_other _ _ _ _ (by show w.heap.size ≠ gm; omega)).trans h.bx, h.mrk.set hU x, grownA_trans h.k (grownS_set _ _ _ _)⟩
/-- What lies there at the end of a round in which the search went on. -/
theorem stW_yes {w W w8 w9 w10 : World} {N b off n c ge ca gm D P cap c9 : Nat} {s : Int} {es : List (Int × Int)} {E r : Nat} {way : List Int} {v u : Int} {M : List Int} {ms : List Bool} {k F : Nat} {q q9 : Option Addr} {ps ps6 : List AcP}
    (h : StW w N b off n c ge ca gm D s es E r way v M ms k q cap ps W) (hP : ps.length = P) (hF : (onL es v)[k]? = some F) (hT : acT es E v M F = true) (hu : othE es v F = u) (hm6 : ps6.map (fun p => p.2.2) = acF es E r (way ++ [(F : Int)]) u (v :: M)) (hB : Below W.heap.size W w8) (hg9 : w8.grownBy w9 (some gm)) (hm9 : OwnB w9 gm N ms) (ha6 : AcAt w9 w8.heap.size ps6)
    (hr9 : w9.ownsRow D 41 1 (.slice q P cap) P (ps.map acV)) (hg10 : w9.grownBy w10 (Value.slice q P cap).ownBlock) (hr10 : w10.ownsRow D 41 1 (.slice q9 (P + ps6.length) c9) (P + ps6.length) ((ps ++ ps6).map acV)) (hgm : gm < w.heap.size) (hD : w.heap.size < D) (hDW : D ≤ W.heap.size) (hge : w.heap.size < ge) :
    StW w N b off n c ge ca gm D s es E r way v M ms (k + 1) q9 c9 (ps ++ ps6) w10 := by
  have h8 := h.on hB
  have hlow : ∀ i, i < D → some i ≠ (Value.slice q P cap).ownBlock := fun i hi e => by have := (hr9.lt i e.symm).1; omega
  have hint : ∀ i cur fr, i ≠ gm → w8.heap[i]? = some (.cells cur 2 fr) → w10.heap[i]? = w8.heap[i]? := fun i cur fr h1 hc => by
    have h2 := hg9.block i (Array.getElem?_eq_some_iff.1 hc).1 (fun e => h1 (Option.some.inj e))
    exact (hg10.block i (Array.getElem?_eq_some_iff.1 (h2.trans hc)).1 (rowA_not hr9 (h2.trans hc))).trans h2
  refine ⟨by rw [List.length_append, hP]; exact hr10, ?_, ?_, ?_, ?_, ?_, ?_⟩
  · rw [List.map_append, h.con, hm6, List.take_add_one, hF, ← hu]
    exact (acU_yes hT).symm
  · refine acI_app hr9 (h8.rows.same fun i cur fr hi hc => hg9.block i (Array.getElem?_eq_some_iff.1 hc).1 (fun e => by have := Option.some.inj e; omega)) ha6 (Nat.le_trans hDW hB.size) (fun p hp => ?_) hg10
    exact Nat.lt_of_lt_of_le (h.rows.own p hp).2.lt hB.size
  · obtain ⟨cur, h1, h2⟩ := h8.ed
    exact ⟨cur, (hint ge _ _ (by omega) h1).trans h1, h2⟩
  · have hl := (Array.getElem?_eq_some_iff.1 h8.bx).1
    have h2 := hg9.block w.heap.size hl (fun e => by have := Option.some.inj e; omega)
    exact ((hg10.block _ (Nat.lt_of_lt_of_le hl hg9.size) (hlow _ hD)).trans h2).trans h8.bx
  · exact hm9.keep (hg10.block gm hm9.lt (hlow gm (by omega)))
  · have h2 := grownA_trans h8.k hg9
    exact ⟨hg10.os.trans h2.os, hg10.tape.trans h2.tape, hg10.output.trans h2.output, Nat.le_trans h2.size hg10.size, fun i hi hne => (hg10.block i (Nat.lt_of_lt_of_le hi h2.size) (hlow i (by omega))).trans (h2.block i hi hne)⟩
theorem acS_pre {N b off E r : Nat} {es : List (Int × Int)} {way : List Int} {v u : Int} {M : List Int} {ms : List Bool} {bl ol gm gg cg F U : Nat} {w W w8 : World} (hp : AcPreS N b off E (r + 1) es way v M ms bl ol gm w) (hk : w.grownBy W (some gm)) (hB : Below W.heap.size W w8) (ho : OwnI w8 gg cg (way ++ [(F : Int)])) (hgg : W.heap.size ≤ gg) (hgm : gm < w.heap.size) (hm8 : OwnB w8 gm N (ms.set U true))
    (hu : 0 ≤ u ∧ u < (N : Int)) (hU : u.toNat = U) (hnd : ¬ u ∈ v :: M) : AcPreS N b off E r es (way ++ [(F : Int)]) u (v :: M) (ms.set U true) gg 0 gm w8 where
  rd := hp.rd.keep ((hB.block b (Nat.lt_of_lt_of_le hp.bb hk.size)).trans (hk.block b hp.bb (fun e => hp.nb (Option.some.inj e))))
  bb := Nat.lt_of_lt_of_le hp.bb (Nat.le_trans hk.size hB.size)
  rl := ho.reads
  bll := ho.lt
  hm := hm8
  nbl := by have := hk.size; omega
  nb := hp.nb
  len := by rw [List.length_append, hp.len]; simp
  cnt := by have := hp.cnt; simp only [List.length_cons]; omega
  fst := by
    have h : eI (way ++ [(F : Int)]) 0 = eI way 0 := by
      unfold eI
      rw [List.getD_eq_getElem?_getD, List.getD_eq_getElem?_getD, List.getElem?_append_left (by have := hp.len; omega)]
    rw [h]
    exact hp.fst
  vr := hu
  nd := List.nodup_cons.2 ⟨hnd, hp.nd⟩
  mr := fun x hx => by
    rcases List.mem_cons.1 hx with rfl | hx
    · exact hp.vr
    · exact hp.mr x hx
  sz := by rw [List.length_set]; exact hp.sz
  ar := fun i hi => by
    have hz := hp.sz
    rw [eL_set (by omega)]
    by_cases e : i = U
    · rw [if_pos e, decide_eq_true (show (i : Int) ∈ u :: v :: M by rw [show (i : Int) = u by omega]; exact List.mem_cons_self ..)]
    · rw [if_neg e, hp.ar i hi]
      have h1 : ¬ (i : Int) = u := by omega
      exact decide_eq_decide.2 ⟨fun h => List.mem_cons_of_mem _ h, fun h => (List.mem_cons.1 h).resolve_left h1⟩
theorem set_backA {ms : List Bool} {U : Nat} (h : eL ms U = false) : (ms.set U true).set U false = ms := by
  apply List.ext_getElem (by simp)
  intro i h1 h2
  rw [List.getElem_set]
  by_cases e : U = i
  · subst e
    rw [if_pos rfl]
    rw [eL_lt h2] at h
    exact h.symm
  · rw [if_neg e, List.getElem_set, if_neg e]

set_option maxRecDepth 100000 in
set_option maxHeartbeats 16000000 in
theorem sAc_step (N b off n c E r : Nat) (es : List (Int × Int)) (g : IsG N es) (hn : es.length = n)
    (ih : ∀ (way : List Int) (v : Int) (M : List Int) (ms : List Bool) (bl ol cl gm : Nat) (w : World), AcPreS N b off E r es way v M ms bl ol gm w →
      Calls Try.prog 81 #[.agg #[.int .i64 N, .slice (some ⟨b, off, none⟩) n c], .slice (some ⟨bl, ol, none⟩) way.length cl, .int .i64 v, .int .i64 (eA es E), .slice (some ⟨gm, 0, none⟩) N N] w (AcPostS N es E r way v M ms gm w))
    (way : List Int) (v : Int) (M : List Int) (ms : List Bool) (bl ol cl gm : Nat) (w : World) (hp : AcPreS N b off E (r + 1) es way v M ms bl ol gm w) (hv : ¬ v = eA es E) :
    Calls Try.prog 81 #[.agg #[.int .i64 N, .slice (some ⟨b, off, none⟩) n c], .slice (some ⟨bl, ol, none⟩) way.length cl, .int .i64 v, .int .i64 (eA es E), .slice (some ⟨gm, 0, none⟩) N N] w (AcPostS N es E (r + 1) way v M ms gm w) := by
  have hn30 : n ≤ 30 := by have := isG_len g; omega
  have hN20 : N ≤ 20 := by have := g.1.1.2.1; omega
  have HP := hid hp
  have Hn := hid hn
  have G := hid g
  obtain ⟨l, hl⟩ : ∃ l, way.length = l := ⟨_, rfl⟩
  have hl1 : 0 < l := by have := hp.len; omega
  have hl20 : l ≤ 21 := by have := hp.len; have := hp.cnt; omega
  obtain ⟨s, hs⟩ : ∃ s : Int, (N : Int) = s := ⟨_, rfl⟩
  have HS := hid hs
  rw [hs] at ih ⊢
  obtain ⟨T, hT⟩ : ∃ T, eA es E = T := ⟨_, rfl⟩
  rw [hT] at ih ⊢
  have HIH := hid ih
  have hvT : (v == T) = false := by rw [← hT, beq_eq_false_iff_ne]; exact hv
  have hv0 : 0 ≤ v := hp.vr.1
  have hv20 : v < 20 := by have := hp.vr.2; omega
  have HL := hid hl
  have HV := hid hv
  have hgm := hp.hm.lt
  obtain ⟨i0, hi, hz0, hz1, hz2⟩ := info_parts infoInt
  have Hi := hid hi
  rw [hl]
  clear hp hn hl hT hv g ih hs hi
  go_enter Try.func81, Try.ntmps81
  go_wp2_with fail
  refine (sAt_any s v b off n c es _ Hn.out hn30 (HP.out.rd.on (bfrom (on_alloc _ _) (on_alloc _ _)))).mono ?_
  rw [atF_three G.out hv0 HP.out.vr.2]
  rintro e' w2 ⟨qe, ca, rfl, hfe, hb2⟩
  obtain ⟨ge, rfl, hge, hoe⟩ := fresh_some hfe (by omega)
  rw [World.size_alloc, World.size_alloc] at hge
  have HB2 := hid (bfrom (w := w) (bfrom (on_alloc _ _) (on_alloc _ _)) hb2)
  have HSt := hid (show StW w N b off n c ge ca gm (w.heap.size + 1) s es E r way v M ms 0 (some ⟨w.heap.size + 1, 0, none⟩) 0 [] w2 from by
    have hB := HB2.out
    refine ⟨?_, rfl, AcAt.nil _ _, hoe, ?_, HP.out.hm.on hB, grownA hB _⟩
    · have h := World.ownsRow_made (base := w.heap.size + 1) (e := 41) (size := 1) (w.alloc (.cells #[.int .i64 s, .slice (some ⟨b, off, none⟩) n c] 28)) #[] 0 (by simp) (Nat.zero_le _) rfl
      rw [World.size_alloc] at h
      exact rowN_same h (fun i cur t fr _ hc => hb2.block i (Array.getElem?_eq_some_iff.1 hc).1)
    · exact (hb2.block _ (by simp; omega)).trans (((on_alloc _ _).block _ (by simp)).trans (heap_alloc_new w _)))
  have hzw2 := HB2.out.size
  clear hfe hb2 hoe
  go_wp2_with fail
  go_loopw [11, 13] (fun u i wr => ∃ (k P cap : Nat) (q : Option Addr) (ps : List AcP), k ≤ 3 ∧ Hid (ps.length = P ∧ P ≤ 20000000000) ∧ u = .slice q P cap ∧ i = .int .i64 k ∧ Hid (StW w N b off n c ge ca gm (w.heap.size + 1) s es E r way v M ms k q cap ps wr)) (fun _ i _ => 3 - (intOf i).toNat)
  case atStart => exact ⟨0, 0, 0, _, [], Nat.zero_le _, hid ⟨rfl, by omega⟩, rfl, rfl, HSt⟩
  case round =>
    clear HSt
    obtain ⟨k, P, cap, q, ps, hk, hP, rfl, rfl, hS⟩ := hrel
    have HPs := hid hP.out
    obtain ⟨wo, rfl⟩ : ∃ wo : World, wo = wr := ⟨_, rfl⟩
    by_cases hlt : k < 3
    · have hk3 : (k : Int) < 3 := by omega
      obtain ⟨F, hF1, hF2, hF3, hF4⟩ := onL_nthA G.out HP.out.vr hlt
      have HF := hid (And.intro hF1 (And.intro hF2 hF3))
      have HFe := hid hF4
      have hFn : F < n := by rw [← Hn.out]; exact hF2
      have hout := oth_in (endsIn_of G.out) hF2 hF3
      have hei := G.out.1.2 F hF2
      have hse := HS.out
      obtain ⟨u, hu⟩ : ∃ u, othE es v F = u := ⟨_, rfl⟩
      rw [hu] at hout
      have HU := hid hu
      have hVe : eA es F + eB es F - v = u := hu
      have hu0 : 0 ≤ u := hout.1
      have huN : u < (N : Int) := hout.2
      have hus : u < s := by omega
      obtain ⟨U, hUn⟩ : ∃ U, u.toNat = U := ⟨_, rfl⟩
      have HUr := hid (show U < N ∧ u = (U : Int) from ⟨by omega, by omega⟩)
      have hx := (cell_of_row wo w.heap.size 0 _ _ _ hS.out.bx).trans (rfl : _ = some (Value.int .i64 s))
      have hy := (cell_of_row wo w.heap.size 1 _ _ _ hS.out.bx).trans (rfl : _ = some (Value.slice (some ⟨b, off, none⟩) n c))
      have hlx := (Array.getElem?_eq_some_iff.1 hS.out.bx).1
      have hce := hS.out.ed.reads k (by rw [atF_three G.out hv0 HP.out.vr.2]; exact hlt)
      rw [hF4, Nat.zero_add] at hce
      have hgl := hS.out.ed.lt
      have HRd := hid (HP.out.rd.keep (hS.out.k.block b HP.out.bb (fun e => HP.out.nb (Option.some.inj e))))
      clear hF1 hF2 hF3 hF4 hout hu
      have HOt := hid (sOther_any s F v b off n c F es wo.drew (by omega) Hn.out (HRd.out.on (w := wo) (w' := wo.drew) (Below.refl _ _).drew) rfl hFn ⟨hei.1, by have := hei.2.1; omega⟩ ⟨hei.2.2.1, by have := hei.2.2.2.1; omega⟩ ⟨hv0, by omega⟩)
      rw [hVe] at HOt
      go_upto_region 7 with fail
      go_cut [14] (fun u0 wx => u0 = .int .i64 u ∧ Hid (Below wo.heap.size wo wx))
      case first =>
        go_region_with ((go_at_call 66; refine HOt.out.mono ?_; rintro e' w6 ⟨rfl, hb6⟩; have hB6 : Below wo.heap.size wo w6 := bfrom (Below.refl _ _).drew hb6; have HB6 := hid hB6; have hx6 := ((bcells hB6).1 _ 0 hlx).trans hx; have hy6 := ((bcells hB6).1 _ 1 hlx).trans hy; have ha6 := ((bcells hB6).1 _ k hgl).trans hce; have hz6 := hB6.size))
        all_goals (go_wp2_with fail; go_meet; exact ⟨rfl, HB6⟩)
      case rest =>
      obtain ⟨rfl, hBw⟩ := hcut
      obtain ⟨w4, rfl⟩ : ∃ w4, w4 = wc := ⟨_, rfl⟩
      have HS4 := hid (hS.out.on hBw.out)
      clear hx hy hlx hce hgl
      have hx := (cell_of_row w4 w.heap.size 0 _ _ _ HS4.out.bx).trans (rfl : _ = some (Value.int .i64 s))
      have hy := (cell_of_row w4 w.heap.size 1 _ _ _ HS4.out.bx).trans (rfl : _ = some (Value.slice (some ⟨b, off, none⟩) n c))
      have hlx := (Array.getElem?_eq_some_iff.1 HS4.out.bx).1
      have hce := HS4.out.ed.reads k (by rw [atF_three G.out hv0 HP.out.vr.2]; exact hlt)
      rw [HFe.out, Nat.zero_add] at hce
      have hgl := HS4.out.ed.lt
      have hcl := (World.cell?_of_block (w := w) (w' := w4) (a := ⟨bl, ol + 0, none⟩) (HS4.out.k.block bl HP.out.bll (fun e => HP.out.nbl (Option.some.inj e)))).trans (HP.out.rl 0 (by rw [HL.out]; exact hl1))
      rw [HP.out.fst, Nat.add_zero] at hcl
      have hbl : bl < w4.heap.size := Nat.lt_of_lt_of_le HP.out.bll HS4.out.k.size
      have hcm := HS4.out.mrk.cell (i := U) (by rw [HP.out.sz]; exact HUr.out.1)
      rw [HP.out.ar U HUr.out.1, ← HUr.out.2] at hcm
      have hfm := HS4.out.mrk.free U
      have hgml := HS4.out.mrk.lt
      obtain ⟨bm, hbm⟩ : ∃ bm, decide (u ∈ v :: M) = bm := ⟨_, rfl⟩
      rw [hbm] at hcm
      have HBm := hid hbm
      have HKl := hid hlt
      clear hbm
      by_cases hef : E < F
      · have hd : decide ((F : Int) ≤ (E : Int)) = false := by rw [decide_eq_false_iff_not]; omega
        have hd2 : decide (F ≤ E) = false := by rw [decide_eq_false_iff_not]; omega
        cases bm
        · have HT := hid (show acT es E v M F = true by unfold acT; rw [HU.out, HBm.out, decide_eq_true hef]; rfl)
          have HNd := hid (show ¬ u ∈ v :: M from of_decide_eq_false HBm.out)
          have HMU := hid (show eL ms U = false by rw [HP.out.ar U HUr.out.1, ← HUr.out.2]; exact HBm.out)
          clear hef
          go_wp2_with fail
          go_quiet (fail)
          obtain ⟨w5, hw5⟩ : ∃ w5, w5 = w4.drewN nq := ⟨_, rfl⟩
          have HS5 := hid (HS4.out.on (show Below w4.heap.size w4 w5 by rw [hw5]; exact bdn.mpr (Below.refl _ _)))
          rw [← hw5]
          clear hw5 hx hy hlx hce hgl hcl hbl hcm hfm hgml hd hd2
          have hcm := HS5.out.mrk.cell (i := U) (by rw [HP.out.sz]; exact HUr.out.1)
          have hfm := HS5.out.mrk.free U
          have hgml := HS5.out.mrk.lt
          go_wp2_with fail
          obtain ⟨W6, hW6⟩ : ∃ W6, W6 = w5.setCell ⟨gm, U, none⟩ (.bool true) := ⟨_, rfl⟩
          have HS6 := hid (show StW w N b off n c ge ca gm (w.heap.size + 1) s es E r way v M (ms.set U true) k q cap ps W6 by rw [hW6]; exact HS5.out.set (by rw [HP.out.sz]; exact HUr.out.1) hgm (by omega) (by omega) true)
          have hz6 : w.heap.size + 1 ≤ W6.heap.size := by
            have h := HS6.out.ed.lt
            omega
          rw [← hW6]
          clear hW6 hcm hfm hgml
          have hblD : bl < W6.drew.heap.size := Nat.lt_of_lt_of_le HP.out.bll HS6.out.k.size
          have HRl := hid (show ReadsI W6.drew bl ol way from fun i hi => (World.cell?_of_block (w := w) (w' := W6) (a := ⟨bl, ol + i, none⟩) (HS6.out.k.block bl HP.out.bll (fun e => HP.out.nbl (Option.some.inj e)))).trans (HP.out.rl i hi))
          have hSD : W6.drew.heap[w.heap.size]? = some (.cells #[.int .i64 s, .slice (some ⟨b, off, none⟩) n c] 28 (0, 0)) ∧ OwnI W6.drew ge ca (atF es v) := ⟨HS6.out.bx, HS6.out.ed⟩
          refine wp_region_held_drew (S := fun w' => w'.heap[w.heap.size]? = some (.cells #[.int .i64 s, .slice (some ⟨b, off, none⟩) n c] 28 (0, 0)) ∧ OwnI w' ge ca (atF es v)) (by kernel_rfl) hSD (fun hHeld => ?_)
          refine wpAnyH_take (i := 0) (v := .slice q P cap) rfl (by kernel_rfl) (by kernel_rfl) (by kernel_rfl) (fun _ _ _ h => h) (Or.inl ⟨by rfl, fun w hSw => ?_⟩) (by assumption) ?_
          · go_simp
          simp only [Act.put, List.getElem_toArray, List.getElem_cons_zero, List.setIfInBounds_toArray, List.set_cons_zero, List.set_cons_succ]
          refine wpAnyH_take (i := 1) (v := .agg #[.int .i64 s, .slice (some ⟨b, off, none⟩) n c]) rfl (by kernel_rfl) (by kernel_rfl) (by kernel_rfl) (fun _ _ _ h => h) (Or.inl ⟨by rfl, fun w hSw => ?_⟩) (by assumption) ?_
          · have h0 := (cell_of_row w _ 0 _ _ _ hSw.1).trans (rfl : _ = some (Value.int .i64 s))
            have h1 := (cell_of_row w _ 1 _ _ _ hSw.1).trans (rfl : _ = some (Value.slice (some ⟨b, off, none⟩) n c))
            go_simp
          simp only [Act.put, List.getElem_toArray, List.getElem_cons_zero, List.getElem_cons_succ, List.setIfInBounds_toArray, List.set_cons_zero, List.set_cons_succ]
          refine wpAnyH_take (i := 2) (v := .slice (some ⟨bl, ol, none⟩) l cl) rfl (by kernel_rfl) (by kernel_rfl) (by kernel_rfl) (fun _ _ _ h => h) (Or.inl ⟨by rfl, fun w hSw => ?_⟩) (by assumption) ?_
          · go_simp
          simp only [Act.put, List.getElem_toArray, List.getElem_cons_zero, List.getElem_cons_succ, List.setIfInBounds_toArray, List.set_cons_zero, List.set_cons_succ]
          refine wpAnyH_take (i := 4) (v := .slice (some ⟨ge, 0, none⟩) 3 ca) rfl (by kernel_rfl) (by kernel_rfl) (by kernel_rfl) (fun _ _ _ h => h) (Or.inl ⟨by rfl, fun w hSw => ?_⟩) (by assumption) ?_
          · go_simp
          simp only [Act.put, List.getElem_toArray, List.getElem_cons_zero, List.getElem_cons_succ, List.setIfInBounds_toArray, List.set_cons_zero, List.set_cons_succ]
          refine wpAnyH_take (i := 5) (v := .int .i64 (k : Int)) rfl (by kernel_rfl) (by kernel_rfl) (by kernel_rfl) (fun _ _ _ h => h) (Or.inl ⟨by rfl, fun w hSw => ?_⟩) (by assumption) ?_
          · go_simp
          simp only [Act.put, List.getElem_toArray, List.getElem_cons_zero, List.getElem_cons_succ, List.setIfInBounds_toArray, List.set_cons_zero, List.set_cons_succ]
          refine wpAnyH_take (i := 6) (v := .pointer (some ⟨ge, k, none⟩)) rfl (by kernel_rfl) (by kernel_rfl) (by kernel_rfl) (fun _ _ _ h => h) (Or.inl ⟨by rfl, fun w hSw => ?_⟩) (by assumption) ?_
          · go_simp
          simp only [Act.put, List.getElem_toArray, List.getElem_cons_zero, List.getElem_cons_succ, List.setIfInBounds_toArray, List.set_cons_zero, List.set_cons_succ]
          refine wpAnyH_take (i := 7) (v := .int .i64 (F : Int)) rfl (by kernel_rfl) (by kernel_rfl) (by kernel_rfl) (fun _ _ _ h => h) (Or.inl ⟨by rfl, fun w hSw => ?_⟩) (by assumption) ?_
          · have h0 := hSw.2.reads k (by rw [atF_three G.out hv0 HP.out.vr.2]; exact HKl.out)
            rw [HFe.out, Nat.zero_add] at h0
            go_simp
          simp only [Act.put, List.getElem_toArray, List.getElem_cons_zero, List.getElem_cons_succ, List.setIfInBounds_toArray, List.set_cons_zero, List.set_cons_succ]
          refine wpAnyH_take (i := 10) (v := .int .i64 u) rfl (by kernel_rfl) (by kernel_rfl) (by kernel_rfl) (fun _ _ _ h => h) (Or.inl ⟨by rfl, fun w hSw => ?_⟩) (by assumption) ?_
          · go_simp
          simp only [Act.put, List.getElem_toArray, List.getElem_cons_zero, List.getElem_cons_succ, List.setIfInBounds_toArray, List.set_cons_zero, List.set_cons_succ]
          refine wpAnyH_take (i := 11) (v := .int .i64 T) rfl (by kernel_rfl) (by kernel_rfl) (by kernel_rfl) (fun _ _ _ h => h) (Or.inl ⟨by rfl, fun w hSw => ?_⟩) (by assumption) ?_
          · go_simp
          simp only [Act.put, List.getElem_toArray, List.getElem_cons_zero, List.getElem_cons_succ, List.setIfInBounds_toArray, List.set_cons_zero, List.set_cons_succ]
          refine wpAnyH_take (i := 12) (v := .slice (some ⟨gm, 0, none⟩) N N) rfl (by kernel_rfl) (by kernel_rfl) (by kernel_rfl) (fun _ _ _ h => h) (Or.inl ⟨by rfl, fun w hSw => ?_⟩) (by assumption) ?_
          · go_simp
          simp only [Act.put, List.getElem_toArray, List.getElem_cons_zero, List.getElem_cons_succ, List.setIfInBounds_toArray, List.set_cons_zero, List.set_cons_succ]
          have hRow6 := HS6.out.row
          rw [HPs.out.1] at hRow6
          have HRow6 := hid hRow6
          clear hRow6
          refine wpAnyH_ready (rs := [3, 8]) (by kernel_rfl) (by simp) ?_
          refine AllReadyH.cons rfl (fun K hK => ?_) (AllReadyH.cons rfl (fun K hK => ?_) AllReadyH.nil)
          · have H7 := hid (sOwnI_any bl ol l cl way W6.drew HL.out (by omega) HRl.out hblD)
            go_simp
            refine H7.out.mono ?_
            rintro e' w7 ⟨g7, c7, rfl, hg7, ho7, hb7⟩
            clear H7
            have hB7 : Below W6.heap.size W6 w7 := ⟨hb7.os, hb7.tape, hb7.output, hb7.size, hb7.block⟩
            have hg7' : W6.heap.size ≤ g7 := hg7
            refine hK.out _ _ ?_ (fun _ => ?_)
            · exact ⟨(hB7.block _ (Array.getElem?_eq_some_iff.1 HS6.out.bx).1).trans HS6.out.bx, HS6.out.ed.on hB7⟩
            clear hK K
            refine wpAnyH_ready (rs := [8]) (by kernel_rfl) (by simp) ?_
            refine AllReadyH.cons rfl (fun K hK => ?_) AllReadyH.nil
            go_simp
            have HB7 := hid (bfrom hB7 (on_alloc w7 (.cells #[.int .i64 F] 2)))
            refine hK.out _ _ ?_ (fun _ => ?_)
            · exact ⟨(HB7.out.block _ (Array.getElem?_eq_some_iff.1 HS6.out.bx).1).trans HS6.out.bx, HS6.out.ed.on HB7.out⟩
            clear hK K
            have hO7 := ho7.on (on_alloc w7 (.cells #[.int .i64 F] 2))
            clear hg7 ho7 hb7 hB7
            refine wpAnyH_ready (rs := [9]) (by kernel_rfl) (by simp) ?_
            refine AllReadyH.cons rfl (fun K hK => ?_) AllReadyH.nil
            refine step_append_way rfl (.tmp 58) (.tmp 63) rfl i0 Hi.out hz0 hz1 hz2 HL.out (by rfl) hO7 (by omega) (by rfl) (cell_one_new w7 _ _) ?_
            intro gg cg w8 ho8 _ hg8 hor8
            have HB8 := hid (show Below W6.heap.size W6 w8 from HB7.out.grown hg8 HB7.out.size (fun j hj => by have := Option.some.inj hj; omega))
            have HO8 := hid ho8
            have hgg8 : W6.heap.size ≤ gg := by
              have h7 := HB7.out.size
              rcases hor8 with ⟨h, _⟩ | h <;> omega
            have HM8 := hid (HS6.out.mrk.on HB8.out)
            clear ho8 hg8 hor8
            refine hK.out _ _ ?_ (fun _ => ?_)
            · exact ⟨(HB8.out.block _ (Array.getElem?_eq_some_iff.1 HS6.out.bx).1).trans HS6.out.bx, HS6.out.ed.on HB8.out⟩
            clear hK K
            refine wpAnyH_ready (rs := [13]) (by kernel_rfl) (by simp) ?_
            refine AllReadyH.cons rfl (fun K hK => ?_) AllReadyH.nil
            have h := HIH.out (way ++ [(F : Int)]) u (v :: M) (ms.set U true) gg 0 cg gm w8 (acS_pre HP.out HS6.out.k HB8.out HO8.out hgg8 hgm HM8.out ⟨hu0, huN⟩ hUn HNd.out)
            rw [show (way ++ [(F : Int)]).length = l + 1 by rw [List.length_append, HL.out]; rfl] at h
            have H8 := hid h
            clear h
            go_simp
            refine H8.out.mono ?_
            rintro e' w9 ⟨q6, c6, ps6, rfl, hrow6, hmap6, hat6, hg9, hm9⟩
            clear H8
            have hP6 : ps6.length ≤ 4000000000 := by
              have h1 := congrArg List.length hmap6
              rw [List.length_map] at h1
              have h2 := acF_le (acI_three G.out) E r (way ++ [(F : Int)]) u (v :: M)
              have h6 : (3 : Nat) ^ r ≤ 3 ^ 20 := Nat.pow_le_pow_right (by omega) (by have := HP.out.cnt; omega)
              have h8 : (3 : Nat) ^ 20 ≤ 4000000000 := by decide
              omega
            have HR9 := hid (rowN_same (rowN_same HRow6.out (fun i cur t fr _ hc => HB8.out.block i (Array.getElem?_eq_some_iff.1 hc).1)) (fun i cur t fr h1 hc => hg9.block i (Array.getElem?_eq_some_iff.1 hc).1 (fun e => by have := Option.some.inj e; omega)))
            have HR6 := hid hrow6
            have HM6 := hid hmap6
            have HA6 := hid hat6
            have HG9 := hid hg9
            have HM9 := hid hm9
            have hs8 := HB8.out.size
            have hs9 := hg9.size
            have HS9 := hid (show w9.heap[w.heap.size]? = some (.cells #[.int .i64 s, .slice (some ⟨b, off, none⟩) n c] 28 (0, 0)) ∧ OwnI w9 ge ca (atF es v) from ⟨(hg9.block _ (Nat.lt_of_lt_of_le (Array.getElem?_eq_some_iff.1 HS6.out.bx).1 hs8) (fun e => by have := Option.some.inj e; omega)).trans ((HB8.out.block _ (Array.getElem?_eq_some_iff.1 HS6.out.bx).1).trans HS6.out.bx), (HS6.out.ed.on HB8.out).keep (hg9.block ge (HS6.out.ed.on HB8.out).lt (fun e => by have := Option.some.inj e; omega))⟩)
            clear hrow6 hmap6 hat6 hg9 hm9
            refine hK.out _ _ ?_ (fun _ => ?_)
            · exact HS9.out
            clear hK K
            refine wpAnyH_ready (rs := [14]) (by kernel_rfl) (by simp) ?_
            refine AllReadyH.cons rfl (fun K hK => ?_) AllReadyH.nil
            refine step_append_rows rfl (.tmp 55) (.tmp 68) rfl (by rfl) HR9.out (by rfl) HR6.out (by omega) HPs.out.2 (by omega) ?_
            intro q9 c9 w10 hrow10 hg10
            have HS10 := hid (stW_yes HS6.out HPs.out.1 HF.out.1 HT.out HU.out HM6.out HB8.out HG9.out HM9.out HA6.out HR9.out hg10 hrow10 hgm (by omega) hz6 (by omega))
            clear hrow10 hg10
            refine hK.out _ _ ?_ (fun _ => ?_)
            · exact ⟨HS10.out.bx, HS10.out.ed⟩
            clear hK K
            refine wpAnyH_ready (rs := [15]) (by kernel_rfl) (by simp) ?_
            refine AllReadyH.cons rfl (fun K hK => ?_) AllReadyH.nil
            go_simp
            refine hK.out _ _ ?_ (fun _ => ?_)
            · exact ⟨HS10.out.bx, HS10.out.ed⟩
            clear hK K
            refine wpAnyH_done (by kernel_rfl) ?_ _
            have hcm := HS10.out.mrk.cell (i := U) (by rw [List.length_set, HP.out.sz]; exact HUr.out.1)
            have hfm := HS10.out.mrk.free U
            have hgml := HS10.out.mrk.lt
            have hPn : (ps ++ ps6).length = P + ps6.length := by rw [List.length_append, HPs.out.1]
            have HPn := hid hPn
            have HPb := hid (show P + ps6.length ≤ 20000000000 by
              have h1 := congrArg List.length HS10.out.con
              rw [List.length_map, hPn] at h1
              have h2 := acU_le (es := es) (E := E) (r := r) (way := way) (v := v) (M := M) (fun way v M => acF_le (acI_three G.out) E r way v M) ((onL es v).take (k + 1))
              have h3 : ((onL es v).take (k + 1)).length ≤ 3 := Nat.le_trans (by rw [List.length_take]; exact Nat.min_le_right _ _) (acI_three G.out v)
              have h6 : (3 : Nat) ^ r ≤ 3 ^ 20 := Nat.pow_le_pow_right (by omega) (by have := HP.out.cnt; omega)
              have h7 : ((onL es v).take (k + 1)).length * 3 ^ r ≤ 3 * 3 ^ 20 := Nat.mul_le_mul h3 h6
              have h8 : (3 : Nat) * 3 ^ 20 ≤ 20000000000 := by decide
              omega)
            clear hPn
            go_wp2
            go_roundw
            case rel =>
              refine ⟨k + 1, P + ps6.length, c9, q9, ps ++ ps6, by have := HKl.out; omega, hid ⟨HPn.out, HPb.out⟩, rfl, by go_num, hid ?_⟩
              have h := HS10.out.set (U := U) (by rw [List.length_set, HP.out.sz]; exact HUr.out.1) hgm (by omega) (by omega) false
              rwa [set_backA HMU.out] at h
            case measure => have := HKl.out; simp [intOf]; omega
          · go_simp
            have hA7 : Below W6.heap.size W6 (W6.drew.alloc (.cells #[.int .i64 F] 2)) := bfrom (Below.refl W6.heap.size W6).drew (on_alloc W6.drew _)
            have hc7 : (W6.drew.alloc (.cells #[.int .i64 F] 2)).heap[W6.heap.size]? = some (.cells #[.int .i64 F] 2 (0, 0)) := heap_alloc_new W6.drew _
            refine hK.out _ _ ?_ (fun _ => ?_)
            · exact ⟨(hA7.block _ (Array.getElem?_eq_some_iff.1 HS6.out.bx).1).trans HS6.out.bx, HS6.out.ed.on hA7⟩
            clear hK K
            refine wpAnyH_ready (rs := [3]) (by kernel_rfl) (by simp) ?_
            refine AllReadyH.cons rfl (fun K hK => ?_) AllReadyH.nil
            have H7 := hid (sOwnI_any bl ol l cl way (W6.drew.alloc (.cells #[.int .i64 F] 2)) HL.out (by omega) (HRl.out.on (on_alloc _ _)) (by rw [World.size_alloc]; exact Nat.lt_succ_of_lt hblD))
            go_simp
            refine H7.out.mono ?_
            rintro e' w7 ⟨g7, c7, rfl, hg7, ho7, hb7⟩
            clear H7
            have HB7 := hid (bfrom hA7 hb7)
            have hg7' : W6.heap.size ≤ g7 := Nat.le_trans (by rw [World.size_alloc]; exact Nat.le_succ _) hg7
            have hl7 : W6.heap.size < (W6.drew.alloc (.cells #[.int .i64 F] 2)).heap.size := (Array.getElem?_eq_some_iff.1 hc7).1
            have hc8 := (hb7.block W6.heap.size hl7).trans hc7
            refine hK.out _ _ ?_ (fun _ => ?_)
            · exact ⟨(HB7.out.block _ (Array.getElem?_eq_some_iff.1 HS6.out.bx).1).trans HS6.out.bx, HS6.out.ed.on HB7.out⟩
            clear hK K hg7 hb7 hA7 hc7 hl7
            refine wpAnyH_ready (rs := [9]) (by kernel_rfl) (by simp) ?_
            refine AllReadyH.cons rfl (fun K hK => ?_) AllReadyH.nil
            refine step_append_way rfl (.tmp 58) (.tmp 63) rfl i0 Hi.out hz0 hz1 hz2 HL.out (by rfl) ho7 (by omega) (by rfl) (World.news_of_block (cs := #[.int .i64 F]) (t := 2) (fr := (0, 0)) hc8) ?_
            intro gg cg w8 ho8 _ hg8 hor8
            have HB8 := hid (show Below W6.heap.size W6 w8 from HB7.out.grown hg8 HB7.out.size (fun j hj => by have := Option.some.inj hj; omega))
            have HO8 := hid ho8
            have hgg8 : W6.heap.size ≤ gg := by
              have h7 := HB7.out.size
              rcases hor8 with ⟨h, _⟩ | h <;> omega
            have HM8 := hid (HS6.out.mrk.on HB8.out)
            clear ho8 hg8 hor8
            refine hK.out _ _ ?_ (fun _ => ?_)
            · exact ⟨(HB8.out.block _ (Array.getElem?_eq_some_iff.1 HS6.out.bx).1).trans HS6.out.bx, HS6.out.ed.on HB8.out⟩
            clear hK K
            refine wpAnyH_ready (rs := [13]) (by kernel_rfl) (by simp) ?_
            refine AllReadyH.cons rfl (fun K hK => ?_) AllReadyH.nil
            have h := HIH.out (way ++ [(F : Int)]) u (v :: M) (ms.set U true) gg 0 cg gm w8 (acS_pre HP.out HS6.out.k HB8.out HO8.out hgg8 hgm HM8.out ⟨hu0, huN⟩ hUn HNd.out)
            rw [show (way ++ [(F : Int)]).length = l + 1 by rw [List.length_append, HL.out]; rfl] at h
            have H8 := hid h
            clear h
            go_simp
            refine H8.out.mono ?_
            rintro e' w9 ⟨q6, c6, ps6, rfl, hrow6, hmap6, hat6, hg9, hm9⟩
            clear H8
            have hP6 : ps6.length ≤ 4000000000 := by
              have h1 := congrArg List.length hmap6
              rw [List.length_map] at h1
              have h2 := acF_le (acI_three G.out) E r (way ++ [(F : Int)]) u (v :: M)
              have h6 : (3 : Nat) ^ r ≤ 3 ^ 20 := Nat.pow_le_pow_right (by omega) (by have := HP.out.cnt; omega)
              have h8 : (3 : Nat) ^ 20 ≤ 4000000000 := by decide
              omega
            have HR9 := hid (rowN_same (rowN_same HRow6.out (fun i cur t fr _ hc => HB8.out.block i (Array.getElem?_eq_some_iff.1 hc).1)) (fun i cur t fr h1 hc => hg9.block i (Array.getElem?_eq_some_iff.1 hc).1 (fun e => by have := Option.some.inj e; omega)))
            have HR6 := hid hrow6
            have HM6 := hid hmap6
            have HA6 := hid hat6
            have HG9 := hid hg9
            have HM9 := hid hm9
            have hs8 := HB8.out.size
            have hs9 := hg9.size
            have HS9 := hid (show w9.heap[w.heap.size]? = some (.cells #[.int .i64 s, .slice (some ⟨b, off, none⟩) n c] 28 (0, 0)) ∧ OwnI w9 ge ca (atF es v) from ⟨(hg9.block _ (Nat.lt_of_lt_of_le (Array.getElem?_eq_some_iff.1 HS6.out.bx).1 hs8) (fun e => by have := Option.some.inj e; omega)).trans ((HB8.out.block _ (Array.getElem?_eq_some_iff.1 HS6.out.bx).1).trans HS6.out.bx), (HS6.out.ed.on HB8.out).keep (hg9.block ge (HS6.out.ed.on HB8.out).lt (fun e => by have := Option.some.inj e; omega))⟩)
            clear hrow6 hmap6 hat6 hg9 hm9
            refine hK.out _ _ ?_ (fun _ => ?_)
            · exact HS9.out
            clear hK K
            refine wpAnyH_ready (rs := [14]) (by kernel_rfl) (by simp) ?_
            refine AllReadyH.cons rfl (fun K hK => ?_) AllReadyH.nil
            refine step_append_rows rfl (.tmp 55) (.tmp 68) rfl (by rfl) HR9.out (by rfl) HR6.out (by omega) HPs.out.2 (by omega) ?_
            intro q9 c9 w10 hrow10 hg10
            have HS10 := hid (stW_yes HS6.out HPs.out.1 HF.out.1 HT.out HU.out HM6.out HB8.out HG9.out HM9.out HA6.out HR9.out hg10 hrow10 hgm (by omega) hz6 (by omega))
            clear hrow10 hg10
            refine hK.out _ _ ?_ (fun _ => ?_)
            · exact ⟨HS10.out.bx, HS10.out.ed⟩
            clear hK K
            refine wpAnyH_ready (rs := [15]) (by kernel_rfl) (by simp) ?_
            refine AllReadyH.cons rfl (fun K hK => ?_) AllReadyH.nil
            go_simp
            refine hK.out _ _ ?_ (fun _ => ?_)
            · exact ⟨HS10.out.bx, HS10.out.ed⟩
            clear hK K
            refine wpAnyH_done (by kernel_rfl) ?_ _
            have hcm := HS10.out.mrk.cell (i := U) (by rw [List.length_set, HP.out.sz]; exact HUr.out.1)
            have hfm := HS10.out.mrk.free U
            have hgml := HS10.out.mrk.lt
            have hPn : (ps ++ ps6).length = P + ps6.length := by rw [List.length_append, HPs.out.1]
            have HPn := hid hPn
            have HPb := hid (show P + ps6.length ≤ 20000000000 by
              have h1 := congrArg List.length HS10.out.con
              rw [List.length_map, hPn] at h1
              have h2 := acU_le (es := es) (E := E) (r := r) (way := way) (v := v) (M := M) (fun way v M => acF_le (acI_three G.out) E r way v M) ((onL es v).take (k + 1))
              have h3 : ((onL es v).take (k + 1)).length ≤ 3 := Nat.le_trans (by rw [List.length_take]; exact Nat.min_le_right _ _) (acI_three G.out v)
              have h6 : (3 : Nat) ^ r ≤ 3 ^ 20 := Nat.pow_le_pow_right (by omega) (by have := HP.out.cnt; omega)
              have h7 : ((onL es v).take (k + 1)).length * 3 ^ r ≤ 3 * 3 ^ 20 := Nat.mul_le_mul h3 h6
              have h8 : (3 : Nat) * 3 ^ 20 ≤ 20000000000 := by decide
              omega)
            clear hPn
            go_wp2
            go_roundw
            case rel =>
              refine ⟨k + 1, P + ps6.length, c9, q9, ps ++ ps6, by have := HKl.out; omega, hid ⟨HPn.out, HPb.out⟩, rfl, by go_num, hid ?_⟩
              have h := HS10.out.set (U := U) (by rw [List.length_set, HP.out.sz]; exact HUr.out.1) hgm (by omega) (by omega) false
              rwa [set_backA HMU.out] at h
            case measure => have := HKl.out; simp [intOf]; omega
        · have HT := hid (show acT es E v M F = false by unfold acT; rw [HU.out, HBm.out, decide_eq_true hef]; rfl)
          clear hef
          go_wp2_with fail
          go_quiet (fail)
          go_wp2
          go_roundw
          case rel => exact ⟨k + 1, P, cap, q, ps, by have := HKl.out; omega, HPs, rfl, by go_num, hid ((HS4.out.no HF.out.1 HT.out).on (bdn.mpr (Below.refl _ _)))⟩
          case measure => have := HKl.out; simp [intOf]; omega
      · have hd : decide ((F : Int) ≤ (E : Int)) = true := by rw [decide_eq_true_eq]; omega
        have hd2 : decide (F ≤ E) = true := by rw [decide_eq_true_eq]; omega
        have HT := hid (show acT es E v M F = false by unfold acT; rw [decide_eq_false hef]; rfl)
        clear hef
        go_wp2_with fail
        go_quiet (fail)
        go_wp2
        go_roundw
        case rel => exact ⟨k + 1, P, cap, q, ps, by have := HKl.out; omega, HPs, rfl, by go_num, hid ((HS4.out.no HF.out.1 HT.out).on (bdn.mpr (Below.refl _ _)))⟩
        case measure => have := HKl.out; simp [intOf]; omega
    · obtain rfl : k = 3 := by omega
      have HSe := hid hS.out
      go_wp2
      go_ret
      obtain ⟨hP1, _⟩ := hP.out
      subst hP1
      have h3 := atF_three G.out hv0 HP.out.vr.2
      rw [onL_at, List.length_map] at h3
      refine ⟨q, cap, ps, rfl, rowA_less HSe.out.row (by omega), ?_, HSe.out.rows.less (by omega), HSe.out.k, HSe.out.mrk⟩
      rw [acF_on HV.out, HSe.out.con, List.take_of_length_le (by omega)]

/-- The contract of the search. -/
theorem sAc_any (N b off n c E : Nat) (es : List (Int × Int)) (g : IsG N es) (hn : es.length = n) : ∀ (r : Nat) (way : List Int) (v : Int) (M : List Int) (ms : List Bool) (bl ol cl gm : Nat) (w : World), AcPreS N b off E r es way v M ms bl ol gm w →
    Calls Try.prog 81 #[.agg #[.int .i64 N, .slice (some ⟨b, off, none⟩) n c], .slice (some ⟨bl, ol, none⟩) way.length cl, .int .i64 v, .int .i64 (eA es E), .slice (some ⟨gm, 0, none⟩) N N] w (AcPostS N es E r way v M ms gm w)
  | 0, way, v, M, ms, bl, ol, cl, gm, w, hp => by
    have h := pre_nodup (N := N) hp.nd (fun x hx => by
      rcases List.mem_cons.1 hx with rfl | hx
      · exact hp.vr
      · exact hp.mr x hx)
    have := hp.cnt
    simp at h
    omega
  | r + 1, way, v, M, ms, bl, ol, cl, gm, w, hp => by
    by_cases hv : v = eA es E
    · exact sAc_leaf N b off n c E r es g way v M ms bl ol cl gm w hp hv
    · exact sAc_step N b off n c E r es g hn (sAc_any N b off n c E es g hn r) way v M ms bl ol cl gm w hp hv

end Go.Proofs.Ytfdlhdgmbjdhbaa
