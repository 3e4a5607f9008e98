/- CutEdge in the model. -/
import Derived.Test.YtemhbbggnednpaaCeH
import Derived.Test.YtemhbbggnednpaaSpecF
import Derived.Test.YtemhbbggnednpaaLeft
import Derived.Deep.RegionWith
import Derived.Deep.DeepCutAuto
import Derived.BigQuiet
namespace Go.Proofs.Ytemhbbggnednpaa
open Go.RowKit Go.Lib

/-- What is known behind the append of the two new edges. -/
theorem cut_facts {w wo w7 : World} {v : Value} {gN ga gb B : Nat} {s : Int} {q : Option Addr} {n c i0 i1 j0 j1 : Nat} {x0 x1 y0 y1 a0 a1 b0 b1 : Value} {o : Obj} (hD : ∀ g, v.ownBlock = some g → gN ≠ g ∧ ga ≠ g ∧ gb ≠ g ∧ B ≤ g)
    (h1 : wo.cell? ⟨ga, 0, none⟩ = some x0 ∧ wo.cell? ⟨ga, 1, none⟩ = some x1 ∧ wo.cell? ⟨gb, 0, none⟩ = some y0 ∧ wo.cell? ⟨gb, 1, none⟩ = some y1 ∧ wo.cell? ⟨gN, i0, none⟩ = some a0 ∧ wo.cell? ⟨gN, i1, none⟩ = some a1 ∧ wo.cell? ⟨gN, j0, none⟩ = some b0 ∧ wo.cell? ⟨gN, j1, none⟩ = some b1)
    (hG : GBox wo w.heap.size s q n c ∧ GBox wo (w.heap.size + 1) 0 none 0 0) (hB : Below w.heap.size w wo) (hBw : w.heap.size + 1 < B) (_ : B ≤ wo.heap.size) (hgr : (wo.alloc o).drew.grownBy w7 v.ownBlock) :
    (w7.cell? ⟨ga, 0, none⟩ = some x0 ∧ w7.cell? ⟨ga, 1, none⟩ = some x1 ∧ w7.cell? ⟨gb, 0, none⟩ = some y0 ∧ w7.cell? ⟨gb, 1, none⟩ = some y1 ∧ w7.cell? ⟨gN, i0, none⟩ = some a0 ∧ w7.cell? ⟨gN, i1, none⟩ = some a1 ∧ w7.cell? ⟨gN, j0, none⟩ = some b0 ∧ w7.cell? ⟨gN, j1, none⟩ = some b1) ∧
    Hid (GBox w7 w.heap.size s q n c ∧ GBox w7 (w.heap.size + 1) 0 none 0 0) ∧ Hid (Below w.heap.size w w7) := by
  have keep : ∀ y, y < wo.heap.size → (∀ g, v.ownBlock = some g → y ≠ g) → w7.heap[y]? = wo.heap[y]? := fun y hy hne => (hgr.block y (by simp only [World.size_alloc, drew_size]; omega) (fun e => hne y e.symm rfl)).trans (Below.heap_alloc wo _ y hy)
  obtain ⟨c1, c2, c3, c4, c5, c6, c7, c8⟩ := h1
  have Ka := keep ga (World.block_lt_of_cell? wo _ c1) (fun g h => (hD g h).2.1)
  have Kb := keep gb (World.block_lt_of_cell? wo _ c3) (fun g h => (hD g h).2.2.1)
  have Kn := keep gN (World.block_lt_of_cell? wo _ c5) (fun g h => (hD g h).1)
  have l2 := hG.2.lt
  refine ⟨⟨(World.cell?_of_block (w := wo) Ka).trans c1, (World.cell?_of_block (w := wo) Ka).trans c2, (World.cell?_of_block (w := wo) Kb).trans c3, (World.cell?_of_block (w := wo) Kb).trans c4, (World.cell?_of_block (w := wo) Kn).trans c5, (World.cell?_of_block (w := wo) Kn).trans c6, (World.cell?_of_block (w := wo) Kn).trans c7, (World.cell?_of_block (w := wo) Kn).trans c8⟩, hid ⟨hG.1.keep (keep _ (by omega) (fun g h => by have := (hD g h).2.2.2; omega)), hG.2.keep (keep _ l2 (fun g h => by have := (hD g h).2.2.2; omega))⟩, hid ?_⟩
  exact ((hB.alloc hB.size _).drew).grown hgr (by simp only [World.size_alloc, drew_size]; have := hB.size; omega) (fun j hj => by have := (hD j hj).2.2.2; omega)

theorem sEnds2_any (s v x : Int) (b off n c : Nat) (es : List (Int × Int)) (L : List Int) (w : World) (hn : es.length = n) (hr : ReadsE w b off es) (g : IsG s es) (hv : 0 ≤ v ∧ v < s) (hL : exU es v x 3 = L) (h2 : L.length = 2) :
    Calls Try.prog 38 #[.agg #[.int .i64 s, .slice (some ⟨b, off, none⟩) n c], .int .i64 v, .int .i64 x] w fun e w' => ∃ g cap, e = .returned (.slice (some ⟨g, 0, none⟩) 2 cap) ∧ w.heap.size ≤ g ∧ OwnI w' g cap L ∧ Below w.heap.size w w' := by
  have h := sEndsX_any s v x b off n c es w hn hr g hv
  rw [hL, h2] at h
  refine h.mono ?_
  rintro e w' ⟨q, cap, rfl, hf, hb⟩
  rcases hf.form with ⟨_, h0, _⟩ | ⟨g, rfl, hg, ho⟩
  · omega
  · exact ⟨g, cap, rfl, hg, ho, hb⟩

theorem num_cell {w : World} {gN capN N X : Nat} {xs : List Int} {x : Int} (h : OwnI w gN capN (nmL 0 xs N)) (h0 : 0 ≤ x) (h1 : x < (N : Int)) (hx : ¬ x ∈ xs) (hX : x.toNat = X) : w.cell? ⟨gN, X, none⟩ = some (.int .i64 (numW x xs xs.length)) := by
  obtain rfl : x = (X : Int) := by omega
  have h2 := h.reads X (by rw [nmL_len]; omega)
  rwa [nmL_at (by omega), nwF_no hx, Int.zero_add, Nat.zero_add] at h2

set_option maxRecDepth 100000 in
set_option maxHeartbeats 4000000 in
theorem sCe_code (s e q : Int) (p : Option Addr) (n c : Nat) (es : List (Int × Int)) (w : World) (hm : n ≤ 1048576) (hn : es.length = n) (hr : SeesE w p es) (hq : edgsCode s es [e] = q) (hq0 : ¬ q = 0) :
    Calls Try.prog 10 #[.agg #[.int .i64 s, .slice p n c], .int .i64 e] w fun e' w' => e' = .returned (.tuple #[.agg #[.int .i64 0, .slice none 0 0], .int .i64 q]) ∧ Below w.heap.size w w' := by
  have Hn := hid hn
  have Hr := hid hr
  have HQ := hid hq
  have hq' : (q != 0) = true := by simpa using hq0
  clear hn hr hq
  go_enter Try.func10, Try.ntmps10
  go_wp2_with fail
  refine (sEdg_any s p n c (w.heap.size + 1 + 1) 0 1 1 es [e] _ hm Hn.out (Hr.out.on (bfrom (bfrom (on_alloc _ _) (on_alloc _ _)) (on_alloc _ _))) rfl (by omega) (reads_one _ _ _ _ (by simp))).mono ?_
  rw [HQ.out]
  rintro e' w2 ⟨rfl, hb2⟩
  obtain ⟨hc2, hf2⟩ := bcells hb2
  have hz2 := hb2.size
  simp at hz2
  go_wp2
  refine bodyPost_ret (v := .tuple #[.agg #[.int .i64 0, .slice none 0 0], .int .i64 q]) (by simp [results, Try.results10, go_sem, hc2]) rfl ⟨rfl, ?_⟩
  have hbw := bfrom (w := w) (bfrom (bfrom (on_alloc _ _) (on_alloc _ _)) (on_alloc _ _)) hb2
  go_grown

set_option maxRecDepth 100000 in
set_option maxHeartbeats 16000000 in
theorem sCe_in (s e : Int) (b off n c E : Nat) (es : List (Int × Int)) (w : World) (hn : es.length = n) (hr : ReadsE w b off es) (g : IsG s es) (hE : E < n) (he : (E : Int) = e) (rc : Int × List (Int × Int) × Int) (hrc : cutR s es E = rc) :
    Calls Try.prog 10 #[.agg #[.int .i64 s, .slice (some ⟨b, off, none⟩) n c], .int .i64 e] w fun e' w' => ∃ q cap, e' = .returned (.tuple #[.agg #[.int .i64 rc.1, .slice q rc.2.1.length cap], .int .i64 rc.2.2]) ∧ FreshE w.heap.size w' q rc.2.1.length cap rc.2.1 ∧ Below w.heap.size w w' := by
  have hn30 : n ≤ 30 := by have := isG_len g; omega
  have hk := g.1.1
  unfold okSize at hk
  obtain ⟨N, hs0⟩ : ∃ N : Nat, (N : Int) = s := ⟨s.toNat, Int.toNat_of_nonneg (by omega)⟩
  have HEl := hid (show E < es.length by omega)
  obtain ⟨U, hU⟩ : ∃ U, eA es E = U := ⟨_, rfl⟩
  obtain ⟨V, hV⟩ : ∃ V, eB es E = V := ⟨_, rfl⟩
  have hp := isG_pos g HEl.out
  have hasc := cut_asc g HEl.out
  rw [hU, hV] at hp hasc
  obtain ⟨C, hC⟩ : ∃ C : Int, ((jcU es U V n : Nat) : Int) = C := ⟨_, rfl⟩
  obtain ⟨Fj, hFj⟩ : ∃ F : Int, jfU es U V n = F := ⟨_, rfl⟩
  obtain ⟨x0, hx0⟩ : ∃ x, eI (cutO es E) 0 = x := ⟨_, rfl⟩
  obtain ⟨x1, hx1⟩ : ∃ x, eI (cutO es E) 1 = x := ⟨_, rfl⟩
  obtain ⟨y0, hy0⟩ : ∃ x, eI (cutT es E) 0 = x := ⟨_, rfl⟩
  obtain ⟨y1, hy1⟩ : ∃ x, eI (cutT es E) 1 = x := ⟨_, rfl⟩
  have HOk := hid (show cutOk es E ↔ C = 1 ∧ x0 ≠ x1 ∧ y0 ≠ y1 by unfold cutOk; rw [hU, hV, hn, hx0, hx1, hy0, hy1, show (jcU es U V n = 1) = (C = 1) from propext (by omega)])
  have HCut := hid (show C = 1 → cutM es E = mdU 0 es [U, V] n ++ [(numW x0 [U, V] 2, numW x1 [U, V] 2), (numW y0 [U, V] 2, numW y1 [U, V] 2)] by intro _; unfold cutM; rw [hU, hV, hx0, hx1, hy0, hy1, hn])
  have HBig := hid (show C = 1 → 4 ≤ s by intro h; exact cut_big g HEl.out (by rw [hU, hV, hn]; omega))
  have HIn0 := hid (show (0 ≤ x0 ∧ x0 < s) ∧ (0 ≤ y0 ∧ y0 < s) by have h := cut_in g HEl.out (show 0 < 2 by omega); rw [hx0, hy0] at h; exact h)
  have HIn1 := hid (show (0 ≤ x1 ∧ x1 < s) ∧ (0 ≤ y1 ∧ y1 < s) by have h := cut_in g HEl.out (show 1 < 2 by omega); rw [hx1, hy1] at h; exact h)
  have HOut0 := hid (show C = 1 → ¬ x0 ∈ [U, V] ∧ ¬ y0 ∈ [U, V] by intro h1; have h := cut_out g HEl.out (by rw [hU, hV, hn]; omega) (show 0 < 2 by omega); rw [hx0, hy0, hU, hV] at h; exact h)
  have HOut1 := hid (show C = 1 → ¬ x1 ∈ [U, V] ∧ ¬ y1 ∈ [U, V] by intro h1; have h := cut_out g HEl.out (by rw [hU, hV, hn]; omega) (show 1 < 2 by omega); rw [hx1, hy1, hU, hV] at h; exact h)
  have HLO := hid (cutO_len g HEl.out)
  have HLT := hid (cutT_len g HEl.out)
  have HOe := hid (show exU es U e 3 = cutO es E by unfold cutO; rw [hU, he])
  have HTe := hid (show exU es V e 3 = cutT es E by unfold cutT; rw [hV, he])
  have HXs := hid (And.intro (And.intro hx0 hx1) (And.intro hy0 hy1))
  have hE1 : EndsIn N es := endsIn_of (by rw [hs0]; exact g)
  have HNd := hid (show [U, V].Nodup by simp; omega)
  have HP1 := hid (show ∀ y, y ∈ [U, V] → 0 ≤ y from fun y h => by rcases List.mem_cons.1 h with h | h; omega; have := List.mem_singleton.1 h; omega)
  have Hn := hid hn
  have Hr1 := hid hr
  have Hr : Hid (SeesE w (some ⟨b, off, none⟩) es) := hid (.inr ⟨b, off, rfl, hr⟩)
  have G := hid g
  have EI1 := hid hE1
  have HUV := hid hp
  have HBl := hid (show b < w.heap.size from reads_lt hr (by omega))
  have HS0 := hid hs0
  have HR := hid hrc
  have HCv := hid (And.intro hC hFj)
  have HUe := hid (And.intro hU hV)
  have Q1 := hid (show edgsCode s es [e] = 0 by rw [edgs_one, if_pos g, if_pos ⟨by omega, by omega⟩])
  have e2 : IntKind.i64.wrap (s - 2) = s - 2 := IntWalk.i64_in _ (by omega)
  have hen : e < (n : Int) := by omega
  have he0 : 0 ≤ e := by omega
  have het : e.toNat = E := by omega
  obtain ⟨i0, hi, hz0, hz1, hz2⟩ := info_parts infoEdge
  have Hi := hid hi
  have HAr := hid (show 2 ≤ s ∧ s ≤ 20 ∧ n ≤ 30 ∧ N ≤ 20 ∧ 2 ≤ N ∧ 0 ≤ U ∧ U < s ∧ 0 ≤ V ∧ V < s ∧ U < V ∧ E < n ∧ 3 ≤ n from ⟨by omega, by omega, hn30, by omega, by omega, hp.1, hp.2.1, hp.2.2.1, hp.2.2.2.1, hasc, hE, by omega⟩)
  clear hn hr g hp hasc hrc hU hV hC hFj hx0 hx1 hy0 hy1 hi hE1 hs0 hk hn30 hE
  go_enter Try.func10, Try.ntmps10
  go_wp2_with fail
  refine (sEdg_any s _ _ _ (w.heap.size + 1 + 1) 0 1 1 es [e] _ (by have ar := HAr.out; omega) Hn.out (Hr.out.on (bfrom (bfrom (on_alloc _ _) (on_alloc _ _)) (on_alloc _ _))) rfl (by omega) (reads_one _ _ _ _ (by simp))).mono ?_
  rw [Q1.out]
  rintro e' w2 ⟨rfl, hb2⟩
  have HB2 := hid (bfrom (w := w) (bfrom (bfrom (on_alloc _ _) (on_alloc _ _)) (on_alloc _ _)) hb2)
  have HG2 := hid ((((GBox.new w w.heap.size rfl : GBox _ _ s (some ⟨b, off, none⟩) n c).on (on_alloc _ _)).on (on_alloc _ _)).on hb2)
  have HK2 := hid (((GBox.new _ (w.heap.size + 1) (by simp) : GBox _ _ 0 none 0 0).on (on_alloc _ _)).on hb2)
  clear hb2
  have hxb := HG2.out.box.1
  have hyb := HG2.out.box.2
  have hlb := HG2.out.lt
  have hcA := (Hr1.out.on HB2.out E HEl.out).1
  have hcB := (Hr1.out.on HB2.out E HEl.out).2
  rw [HUe.out.1] at hcA
  rw [HUe.out.2] at hcB
  go_upto_region 4 with fail
  go_quiet (fail)
  obtain ⟨w3, hw3⟩ : ∃ w3, w3 = w2.drewN nq := ⟨_, rfl⟩
  have HB3 := hid (show Below w.heap.size w w3 by rw [hw3]; exact bdn.mpr HB2.out)
  have HG3 := hid (show GBox w3 w.heap.size s (some ⟨b, off, none⟩) n c by rw [hw3]; exact HG2.out)
  have HK3 := hid (show GBox w3 (w.heap.size + 1) 0 none 0 0 by rw [hw3]; exact HK2.out)
  rw [← hw3]
  clear hw3 hxb hyb hlb hcA hcB HG2 HK2 HB2
  have hxb := HG3.out.box.1
  have hyb := HG3.out.box.2
  have hlb := HG3.out.lt
  go_wp2_with fail
  refine (sJoined_any s U V U V b off n c es _ Hn.out (by have ar := HAr.out; omega) (Hr1.out.on HB3.out) (by have := HBl.out; omega) (by have ar := HAr.out; omega) (by have ar := HAr.out; omega)).mono ?_
  rw [HCv.out.1, HCv.out.2]
  rintro e' w4 ⟨rfl, hb4⟩
  have HB4 := hid (bfrom HB3.out hb4)
  have HG4 := hid (HG3.out.on hb4)
  have HK4 := hid (HK3.out.on hb4)
  clear hb4 hxb hyb hlb HG3 HK3 HB3
  have hxb := HG4.out.box.1
  have hyb := HG4.out.box.2
  have hlb := HG4.out.lt
  have hBc : Below w4.heap.size w4 w4 := Below.refl _ _
  go_upto_region 6 with fail
  go_cut [11, 12] (fun u1 u2 wx => ∃ ga ca gb cb, u1 = .slice (some ⟨ga, 0, none⟩) 2 ca ∧ u2 = .slice (some ⟨gb, 0, none⟩) 2 cb ∧ Hid (OwnI wx ga ca (cutO es E)) ∧ Hid (OwnI wx gb cb (cutT es E)) ∧ Hid (w4.heap.size ≤ ga ∧ w4.heap.size ≤ gb) ∧ Hid (Below w4.heap.size w4 wx))
  case first =>
    go_region_with (first
      | (go_at_call_of 38 (Value.int .i64 U); refine (sEnds2_any s U e b off n c es (cutO es E) _ Hn.out ((Hr1.out.on HB4.out).on (by first | exact hBc.drew | exact hBc)) G.out (by have ar := HAr.out; omega) HOe.out HLO.out).mono ?_; rintro e' w9 ⟨ga, ca, rfl, hga, hoa, hb9⟩; have hBc := bfrom (w := w4) (by first | exact hBc.drew | exact hBc) hb9; have HOa := hid hoa; have HGa := hid hga; clear hoa hga; have hu9 := ((bcells hBc).1 _ 0 hlb).trans hxb; have ht9 := ((bcells hBc).1 _ 1 hlb).trans hyb; have HB9 := hid hBc; clear hBc; have hBc := HB9.out)
      | (go_at_call_of 38 (Value.int .i64 V); refine (sEnds2_any s V e b off n c es (cutT es E) _ Hn.out ((Hr1.out.on HB4.out).on hBc) G.out (by have ar := HAr.out; omega) HTe.out HLT.out).mono ?_; rintro e' w10 ⟨gb, cb, rfl, hgb, hob, hb10⟩; have HOa10 := hid (HOa.out.on hb10); have hszc := hBc.size; have HB10 := hid (bfrom hBc hb10); have HOb := hid hob; have HGb := hid hgb; clear hob hgb))
    all_goals (go_wp2_with fail; go_meet; exact ⟨ga, ca, gb, cb, rfl, rfl, HOa10, HOb, hid ⟨HGa.out, by have := HGb.out; omega⟩, HB10⟩)
  case rest =>
  obtain ⟨ga, ca, gb, cb, rfl, rfl, hOa, hOb, hGab, hBw⟩ := hcut
  obtain ⟨w5, rfl⟩ : ∃ w5, w5 = wc := ⟨_, rfl⟩
  have HB5 := hid (bfrom HB4.out hBw.out)
  have HG5 := hid (HG4.out.on hBw.out)
  have HK5 := hid (HK4.out.on hBw.out)
  have hla := HLO.out
  have hlt := HLT.out
  have ha0 := hOa.out.reads 0 (by omega)
  have ha1 := hOa.out.reads 1 (by omega)
  have hb0 := hOb.out.reads 0 (by omega)
  have hb1 := hOb.out.reads 1 (by omega)
  rw [HXs.out.1.1] at ha0
  rw [HXs.out.1.2] at ha1
  rw [HXs.out.2.1] at hb0
  rw [HXs.out.2.2] at hb1
  rw [Nat.zero_add] at ha0 ha1 hb0 hb1
  have hka : ga < w5.heap.size := hOa.out.lt
  have hkb : gb < w5.heap.size := hOb.out.lt
  have h45 := hBw.out.size
  clear hla hlt hxb hyb hlb hBc HG4 HK4 HB4
  have hxb := HG5.out.box.1
  have hyb := HG5.out.box.2
  have hlb := HG5.out.lt
  have hkx := HK5.out.box.1
  have hky := HK5.out.box.2
  have hfx := HK5.out.frozen 0
  have hfy := HK5.out.frozen 1
  have hlk := HK5.out.lt
  by_cases hC1 : C = 1
  · have b1 : (C != 1) = false := by rw [hC1]; rfl
    by_cases hx : x0 = x1
    · have b2 : (x0 == x1) = true := by rw [hx]; simp
      have hrc := HR.out
      rw [cutR_no (fun h => (HOk.out.1 h).2.1 hx)] at hrc
      have HRc := hid hrc
      clear hC1 hx hrc
      go_wp2_with fail
      go_quiet (fail)
      go_wp2
      refine bodyPost_ret (v := .tuple #[.agg #[.int .i64 0, .slice none 0 0], .int .i64 5]) (by simp [results, Try.results10, go_sem, hkx, hky]) rfl ?_
      rw [← HRc.out]
      refine ⟨none, 0, rfl, FreshE.nil _ _, ?_⟩
      have h := HB5.out
      go_grown
      exact bdn.mpr HB5.out
    · have b2 : (x0 == x1) = false := by rw [beq_eq_false_iff_ne]; exact hx
      by_cases hy : y0 = y1
      · have b3 : (y0 == y1) = true := by rw [hy]; simp
        have hrc := HR.out
        rw [cutR_no (fun h => (HOk.out.1 h).2.2 hy)] at hrc
        have HRc := hid hrc
        clear hC1 hx hy hrc
        go_wp2_with fail
        go_quiet (fail)
        go_wp2
        refine bodyPost_ret (v := .tuple #[.agg #[.int .i64 0, .slice none 0 0], .int .i64 5]) (by simp [results, Try.results10, go_sem, hkx, hky]) rfl ?_
        rw [← HRc.out]
        refine ⟨none, 0, rfl, FreshE.nil _ _, ?_⟩
        have h := HB5.out
        go_grown
        exact bdn.mpr HB5.out
      · have b3 : (y0 == y1) = false := by rw [beq_eq_false_iff_ne]; exact hy
        have b4 : (s == 2) = false := by rw [beq_eq_false_iff_ne]; have := HBig.out hC1; omega
        have hrc := HR.out
        rw [cutR_yes (HOk.out.2 ⟨hC1, hx, hy⟩)] at hrc
        have HRc := hid hrc
        have HC1 := hid hC1
        clear hC1 hx hy hrc
        go_wp2_with fail
        go_quiet (fail)
        obtain ⟨w6, hw6⟩ : ∃ w6, w6 = w5.drewN nq := ⟨_, rfl⟩
        have HB6 := hid (show Below w.heap.size w w6 by rw [hw6]; exact bdn.mpr HB5.out)
        have HG6 := hid (show GBox w6 w.heap.size s (some ⟨b, off, none⟩) n c by rw [hw6]; exact HG5.out)
        have HK6 := hid (show GBox w6 (w.heap.size + 1) 0 none 0 0 by rw [hw6]; exact HK5.out)
        have HOa6 := hid (show OwnI w6 ga ca (cutO es E) by rw [hw6]; exact hOa.out)
        have HOb6 := hid (show OwnI w6 gb cb (cutT es E) by rw [hw6]; exact hOb.out)
        rw [← hw6]
        clear hw6 hxb hyb hlb hkx hky hfx hfy hlk ha0 ha1 hb0 hb1 hka hkb h45 HG5 HK5 HB5 hOa hOb hBw
        have hxb := HG6.out.box.1
        have hyb := HG6.out.box.2
        have hlb := HG6.out.lt
        go_wp2_with fail
        have W7 := sWithout_any N b off n c w6.heap.size 0 2 2 0 es [U, V] (w6.alloc (.cells #[.int .i64 U, .int .i64 V] 2)) Hn.out (by have ar := HAr.out; omega) (by have ar := HAr.out; omega) (by have ar := HAr.out; omega) (Hr1.out.on (bfrom HB6.out (on_alloc _ _))) EI1.out (by omega) rfl (by omega) (reads_twoM _ _ _ _ _ rfl) HNd.out HP1.out (by simp)
        rw [HS0.out] at W7
        refine W7.mono ?_
        clear W7
        obtain ⟨L1, hLL1⟩ : ∃ L1, (mdU 0 es [U, V] n).length = L1 := ⟨_, rfl⟩
        rw [hLL1]
        rintro e' w7 ⟨gN, capN, q1, cap1, rfl, hf7, ⟨hgN, hoN, hne⟩, hb7⟩
        have hL30 : L1 ≤ 30 := by have h := mdU_len 0 es [U, V] n; rw [hLL1] at h; have ar := HAr.out; omega
        have HB7 := hid (bfrom (bfrom HB6.out (on_alloc _ _)) hb7)
        have HGK := hid (And.intro ((HG6.out.on (on_alloc _ _)).on hb7) ((HK6.out.on (on_alloc _ _)).on hb7))
        have HOa7 := hid ((HOa6.out.on (on_alloc _ _)).on hb7)
        have HOb7 := hid ((HOb6.out.on (on_alloc _ _)).on hb7)
        have hs7 : w6.heap.size + 1 ≤ w7.heap.size := by have h := hb7.size; rwa [World.size_alloc] at h
        have hb6 := HK6.out.lt
        have hF7 : FreshE (w6.heap.size + 1) w7 q1 L1 cap1 (mdU 0 es [U, V] n) := hf7.less (by rw [World.size_alloc]; exact Nat.le_refl _)
        have HD := hid (show ∀ g, (Value.slice q1 L1 cap1).ownBlock = some g → gN ≠ g ∧ ga ≠ g ∧ gb ≠ g ∧ w6.heap.size + 1 ≤ g from fun g h => by
          have h1 := (hF7.own h).1
          have h2 := HOa6.out.lt
          have h3 := HOb6.out.lt
          exact ⟨hne g h, by omega, by omega, h1⟩)
        have HRow := hid hF7.1
        have hx00 : 0 ≤ x0 := HIn0.out.1.1
        have hx10 : 0 ≤ x1 := HIn1.out.1.1
        have hy00 : 0 ≤ y0 := HIn0.out.2.1
        have hy10 : 0 ≤ y1 := HIn1.out.2.1
        have hst0 := HS0.out
        have hx0N : x0 < (N : Int) := by rw [hst0]; exact HIn0.out.1.2
        have hx1N : x1 < (N : Int) := by rw [hst0]; exact HIn1.out.1.2
        have hy0N : y0 < (N : Int) := by rw [hst0]; exact HIn0.out.2.2
        have hy1N : y1 < (N : Int) := by rw [hst0]; exact HIn1.out.2.2
        obtain ⟨X0, hX0⟩ : ∃ X, x0.toNat = X := ⟨_, rfl⟩
        obtain ⟨X1, hX1⟩ : ∃ X, x1.toNat = X := ⟨_, rfl⟩
        obtain ⟨Y0, hY0⟩ : ∃ X, y0.toNat = X := ⟨_, rfl⟩
        obtain ⟨Y1, hY1⟩ : ∃ X, y1.toNat = X := ⟨_, rfl⟩
        have hn0 := num_cell hoN hx00 hx0N (HOut0.out HC1.out).1 hX0
        have hn1 := num_cell hoN hx10 hx1N (HOut1.out HC1.out).1 hX1
        have hn2 := num_cell hoN hy00 hy0N (HOut0.out HC1.out).2 hY0
        have hn3 := num_cell hoN hy10 hy1N (HOut1.out HC1.out).2 hY1
        have HM := HCut.out HC1.out
        obtain ⟨a0, ha0⟩ : ∃ a, numW x0 [U, V] 2 = a := ⟨_, rfl⟩
        obtain ⟨a1, ha1⟩ : ∃ a, numW x1 [U, V] 2 = a := ⟨_, rfl⟩
        obtain ⟨d0, hd0⟩ : ∃ a, numW y0 [U, V] 2 = a := ⟨_, rfl⟩
        obtain ⟨d1, hd1⟩ : ∃ a, numW y1 [U, V] 2 = a := ⟨_, rfl⟩
        rw [ha0, ha1, hd0, hd1] at HM
        rw [show ([U, V] : List Int).length = 2 from rfl] at hn0 hn1 hn2 hn3
        rw [ha0] at hn0
        rw [ha1] at hn1
        rw [hd0] at hn2
        rw [hd1] at hn3
        obtain ⟨A, hA⟩ : ∃ A, mdU 0 es [U, V] n = A := ⟨_, rfl⟩
        rw [hA] at HM hLL1 HRow
        have HMl := hid (And.intro HM hLL1)
        have hla := HLO.out
        have hlt := HLT.out
        have hc0 := HOa7.out.reads 0 (by omega)
        have hc1 := HOa7.out.reads 1 (by omega)
        have hc2 := HOb7.out.reads 0 (by omega)
        have hc3 := HOb7.out.reads 1 (by omega)
        rw [HXs.out.1.1] at hc0
        rw [HXs.out.1.2] at hc1
        rw [HXs.out.2.1] at hc2
        rw [HXs.out.2.2] at hc3
        rw [Nat.zero_add] at hc0 hc1 hc2 hc3
        have hS := And.intro hc0 (And.intro hc1 (And.intro hc2 (And.intro hc3 (And.intro hn0 (And.intro hn1 (And.intro hn2 hn3))))))
        have HS7 := hid hS
        have hgl := World.block_lt_of_cell? w7 _ hn0
        have hal := HOa7.out.lt
        have hbl := HOb7.out.lt
        clear hf7 hF7 hne hoN hb7 hgN ha0 ha1 hd0 hd1 hA HM hLL1 hla hlt hS hst0 HG6 HK6 HB6 HOa6 HOb6 hxb hyb hlb
        have hxb := HGK.out.1.box.1
        have hyb := HGK.out.1.box.2
        have hlb := HGK.out.1.lt
        go_upto_region 10 with fail
        go_region_held3 (fun w' => w'.cell? ⟨ga, 0, none⟩ = some (.int .i64 x0) ∧ w'.cell? ⟨ga, 1, none⟩ = some (.int .i64 x1) ∧ w'.cell? ⟨gb, 0, none⟩ = some (.int .i64 y0) ∧ w'.cell? ⟨gb, 1, none⟩ = some (.int .i64 y1) ∧ w'.cell? ⟨gN, X0, none⟩ = some (.int .i64 a0) ∧ w'.cell? ⟨gN, X1, none⟩ = some (.int .i64 a1) ∧ w'.cell? ⟨gN, Y0, none⟩ = some (.int .i64 d0) ∧ w'.cell? ⟨gN, Y1, none⟩ = some (.int .i64 d1)) (first | go_keep | exact hS7) ((refine step_append_wantedX (by rfl) (.tmp 84) (.tmp 111) 26 (by rfl) (w6.heap.size + 1) 58 i0 (.agg #[.int .i64 0, .int .i64 0]) 2 16 Try.underlying26 Hi.out hz0 hz1 hz2 rfl (by decide) (.slice q1 L1 cap1) L1 _ (by rfl) (show (w7.alloc _).ownsRow _ _ _ _ _ _ from World.ownsRow.alloc HRow.out _) ⟨w7.heap.size, 0, none⟩ 2 2 [.int .i64 a0, .int .i64 a1, .int .i64 d0, .int .i64 d1] (by rfl) rfl (World.news_of_block (cs := #[.int .i64 a0, .int .i64 a1, .int .i64 d0, .int .i64 d1]) (t := 58) (fr := (0, 0)) (heap_alloc_new _ _)) (by simp [Value.oneCell']) (by decide) (by unfold maxLen; omega) (by omega) (by simp only [drew_size, World.size_alloc]; omega) ?_; intro g8 cap8 w8 hown8 hgr8 hlie8 hgl8; obtain ⟨hS7, HG8, HB8⟩ := cut_facts HD.out HS7.out HGK.out HB7.out (by omega) hs7 hgr8; have Hown := hid hown8; clear hown8 hgr8 hlie8))
        clear hS7 hc0 hc1 hc2 hc3 hn0 hn1 hn2 hn3 hxb hyb hlb
        have hxb := HG8.out.1.box.1
        have hyb := HG8.out.1.box.2
        have hlb := HG8.out.1.lt
        have hlen : (A ++ [(a0, a1), (d0, d1)]).length = L1 + 2 := by rw [List.length_append, HMl.out.2]; rfl
        have hor := OwnE.of_row (es := A ++ [(a0, a1), (d0, d1)]) (by rw [edgeVals_append]; exact Hown.out) hlen
        have HOr := hid hor.1
        have HLn := hid hlen
        clear hor hlen
        go_wp2_with fail
        refine (sMade_any (s - 2) g8 0 (L1 + 2) cap8 (A ++ [(a0, a1), (d0, d1)]) _ (by omega) HLn.out HOr.out.reads).mono ?_
        rintro e' w9 ⟨q, cq, rfl, hf9, hb9⟩
        have HB9 := hid (bfrom HB8.out hb9)
        have HK9 := hid (HG8.out.2.on hb9)
        have hszB := HB8.out.size
        have hkl := HG8.out.2.lt
        have HF9 := hid hf9
        clear hb9 hf9 hxb hyb hlb
        have hkx := HK9.out.box.1
        have hky := HK9.out.box.2
        have hfx := HK9.out.frozen 0
        have hfy := HK9.out.frozen 1
        have hlk := HK9.out.lt
        go_wp2
        refine bodyPost_ret (v := .tuple #[.agg #[.int .i64 (s - 2), .slice q (L1 + 2) cq], .int .i64 0]) (by simp [results, Try.results10, go_sem, hkx, hky]) rfl ?_
        rw [← HRc.out, HMl.out.1]
        dsimp only
        rw [sortE_length, HLn.out]
        refine ⟨q, cq, rfl, ?_, ?_⟩
        · exact (((HF9.out.less (B' := w8.heap.size) (Nat.le_refl _)).far (a := ⟨w.heap.size + 1, 0, none⟩) hkl _).far (a := ⟨w.heap.size + 1, 1, none⟩) hkl _).less hszB
        · have h := HB9.out
          go_grown
  · have b1 : (C != 1) = true := by simpa using hC1
    have hrc := HR.out
    rw [cutR_no (fun h => hC1 (HOk.out.1 h).1)] at hrc
    have HRc := hid hrc
    clear hC1 hrc
    go_wp2_with fail
    go_quiet (fail)
    go_wp2
    refine bodyPost_ret (v := .tuple #[.agg #[.int .i64 0, .slice none 0 0], .int .i64 5]) (by simp [results, Try.results10, go_sem, hkx, hky]) rfl ?_
    rw [← HRc.out]
    refine ⟨none, 0, rfl, FreshE.nil _ _, ?_⟩
    have h := HB5.out
    go_grown
    exact bdn.mpr HB5.out

end Go.Proofs.Ytemhbbggnednpaa
