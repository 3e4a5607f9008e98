/- CutEdge in the program: the edge is there. -/
import Derived.Test.YtemhbbggnednpaaCeH
import Derived.Test.YtemhbbggnednpaaStrA
import Derived.Test.YtemhbbggnednpaaCntI
import Derived.Test.YtemhbbggnednpaaClone
import Derived.Test.YtemhbbggnednpaaLeft
import Derived.Test.YtemhbbggnednpaaEndA
import Derived.Deep.RegionHeld3
namespace Go.Proofs.Ytemhbbggnednpaa
open Go.RowKit Go.Lib

/-- The edges with the first k of the new ones behind them. -/
def cutK (es : List (Int × Int)) (x0 x1 y0 y1 : Int) (k : Nat) : List (Int × Int) := es ++ ([(x0, x1), (y0, y1)] : List (Int × Int)).take k
theorem cutK_len (es : List (Int × Int)) (x0 x1 y0 y1 : Int) {k : Nat} (hk : k ≤ 2) : (cutK es x0 x1 y0 y1 k).length = es.length + k := by
  unfold cutK
  rw [List.length_append, List.length_take]
  simp
  omega

theorem iEnds2_any (s v x y : Int) (b off n c : Nat) (es : List (Int × Int)) (L : List Int) (w : World) (hn100 : n ≤ 100) (hn : es.length = n) (hr : ReadsE w b off es) (hbl : b < w.heap.size) (hL : endL es x y (arF es v) = L) (h2 : L.length = 2) :
    Calls Try.prog 46 #[.agg #[.int .i64 s, .slice (some ⟨b, off, none⟩) n c], .int .i64 v, .agg #[.int .i64 x, .int .i64 y]] w fun e w' => ∃ g cap, e = .returned (.slice (some ⟨g, 0, none⟩) 2 cap) ∧ w.heap.size ≤ g ∧ OwnI w' g cap L ∧ Below w.heap.size w w' := by
  have h := iEndA_any s v x y b off n c es w hn100 hn hr hbl
  rw [hL, h2] at h
  refine h.mono ?_
  rintro e w' ⟨q, cap, rfl, hf, hb⟩
  rcases hf.form with ⟨_, h0, _⟩ | ⟨g, rfl, hg, ho⟩
  · omega
  · exact ⟨g, cap, rfl, hg, ho, hb⟩
/-- The box of the edge that is cut. -/
def EBox (w : World) (B : Nat) (x y : Int) : Prop := w.heap[B]? = some (.cells #[.int .i64 x, .int .i64 y] 58 (0, 0))
theorem EBox.on {w w' : World} {B : Nat} {x y : Int} (h : EBox w B x y) (hb : Below w.heap.size w w') : EBox w' B x y := (hb.block B (Array.getElem?_eq_some_iff.1 h).1).trans h
theorem EBox.lt {w : World} {B : Nat} {x y : Int} (h : EBox w B x y) : B < w.heap.size := (Array.getElem?_eq_some_iff.1 h).1
theorem EBox.c0 {w : World} {B : Nat} {x y : Int} (h : EBox w B x y) : w.cell? ⟨B, 0, none⟩ = some (.int .i64 x) := (cell_of_row w B 0 _ _ _ h).trans rfl
theorem EBox.c1 {w : World} {B : Nat} {x y : Int} (h : EBox w B x y) : w.cell? ⟨B, 1, none⟩ = some (.int .i64 y) := (cell_of_row w B 1 _ _ _ h).trans rfl

theorem new_secondC (w : World) (o o2 : Obj) (g : Nat) (hg : g = w.heap.size + 1) : ((w.alloc o).alloc o2).heap[g]? = some o2 := by
  subst hg
  have h := heap_alloc_new (w.alloc o) o2
  rwa [World.size_alloc] at h
/-- What is known behind the append of a new edge. -/
theorem ce_facts {w w6 w8 : World} {v : Value} {s U V : Int} {q : Option Addr} {n c B Bs : Nat} {o o2 : Obj} (hD : ∀ g, v.ownBlock = some g → Bs ≤ g) (hG : GBox w6 w.heap.size s q n c ∧ GBox w6 (w.heap.size + 1) 0 none 0 0 ∧ EBox w6 B U V) (hB : Below w.heap.size w w6) (hBw : w.heap.size + 1 < B) (hBs : B < Bs)
    (hgr : ((w6.alloc o).alloc o2).grownBy w8 v.ownBlock) : Hid (GBox w8 w.heap.size s q n c ∧ GBox w8 (w.heap.size + 1) 0 none 0 0 ∧ EBox w8 B U V) ∧ Hid (Below w.heap.size w w8) := by
  have keep : ∀ y, y < w6.heap.size → y < Bs → w8.heap[y]? = w6.heap[y]? := fun y hy hne => (hgr.block y (by simp only [World.size_alloc]; omega) (fun e => by have := hD y e.symm; omega)).trans ((Below.heap_alloc _ o2 y (by rw [World.size_alloc]; omega)).trans (Below.heap_alloc w6 o y hy))
  have l1 := hG.2.1.lt
  have l2 := hG.2.2.lt
  refine ⟨hid ⟨hG.1.keep (keep _ (by omega) (by omega)), hG.2.1.keep (keep _ l1 (by omega)), (keep _ l2 hBs).trans hG.2.2⟩, hid ?_⟩
  have hz := hB.size
  exact ((hB.alloc hz _).alloc (by simp; omega) _).grown hgr (by simp only [World.size_alloc]; omega) (fun j hj => by have := hD j hj; omega)

set_option maxRecDepth 100000 in
set_option maxHeartbeats 16000000 in
theorem iCe_in (s e : Int) (b off n c E : Nat) (es : List (Int × Int)) (w : World) (hn : es.length = n) (hr : ReadsE w b off es) (g : IsG s es) (hE : E < n) (he : (E : Int) = e) (rc : Int × List (Int × Int) × Int) (hrc : cutR s es E = rc) :
    Calls Try.prog 12 #[.agg #[.int .i64 s, .slice (some ⟨b, off, none⟩) n c], .int .i64 e] w fun e' w' => ∃ q cap, e' = .returned (.tuple #[.agg #[.int .i64 rc.1, .slice q rc.2.1.length cap], .int .i64 rc.2.2]) ∧ FreshE w.heap.size w' q rc.2.1.length cap rc.2.1 ∧ Below w.heap.size w w' := by
  have hn30 : n ≤ 30 := by have := isG_len g; omega
  have hk := g.1.1
  unfold okSize at hk
  obtain ⟨N, hs0⟩ : ∃ N : Nat, (N : Int) = s := ⟨s.toNat, Int.toNat_of_nonneg (by omega)⟩
  have HEl := hid (show E < es.length by omega)
  obtain ⟨U, hU⟩ : ∃ U, eA es E = U := ⟨_, rfl⟩
  obtain ⟨V, hV⟩ : ∃ V, eB es E = V := ⟨_, rfl⟩
  have hp := isG_pos g HEl.out
  have hasc := cut_asc g HEl.out
  rw [hU, hV] at hp hasc
  obtain ⟨C, hC⟩ : ∃ C : Int, ((jcU es U V n : Nat) : Int) = C := ⟨_, rfl⟩
  obtain ⟨Fj, hFj⟩ : ∃ F : Int, jfU es U V n = F := ⟨_, rfl⟩
  obtain ⟨x0, hx0⟩ : ∃ x, eI (cutO es E) 0 = x := ⟨_, rfl⟩
  obtain ⟨x1, hx1⟩ : ∃ x, eI (cutO es E) 1 = x := ⟨_, rfl⟩
  obtain ⟨y0, hy0⟩ : ∃ x, eI (cutT es E) 0 = x := ⟨_, rfl⟩
  obtain ⟨y1, hy1⟩ : ∃ x, eI (cutT es E) 1 = x := ⟨_, rfl⟩
  have HOk := hid (show cutOk es E ↔ C = 1 ∧ x0 ≠ x1 ∧ y0 ≠ y1 by unfold cutOk; rw [hU, hV, hn, hx0, hx1, hy0, hy1, show (jcU es U V n = 1) = (C = 1) from propext (by omega)])
  have HCut := hid (show C = 1 → cutM es E = mdU 0 es [U, V] n ++ [(numW x0 [U, V] 2, numW x1 [U, V] 2), (numW y0 [U, V] 2, numW y1 [U, V] 2)] by intro _; unfold cutM; rw [hU, hV, hx0, hx1, hy0, hy1, hn])
  have HBig := hid (show C = 1 → 4 ≤ s by intro h; exact cut_big g HEl.out (by rw [hU, hV, hn]; omega))
  have HIn0 := hid (show (0 ≤ x0 ∧ x0 < s) ∧ (0 ≤ y0 ∧ y0 < s) by have h := cut_in g HEl.out (show 0 < 2 by omega); rw [hx0, hy0] at h; exact h)
  have HIn1 := hid (show (0 ≤ x1 ∧ x1 < s) ∧ (0 ≤ y1 ∧ y1 < s) by have h := cut_in g HEl.out (show 1 < 2 by omega); rw [hx1, hy1] at h; exact h)
  have HOut0 := hid (show C = 1 → ¬ x0 ∈ [U, V] ∧ ¬ y0 ∈ [U, V] by intro h1; have h := cut_out g HEl.out (by rw [hU, hV, hn]; omega) (show 0 < 2 by omega); rw [hx0, hy0, hU, hV] at h; exact h)
  have HOut1 := hid (show C = 1 → ¬ x1 ∈ [U, V] ∧ ¬ y1 ∈ [U, V] by intro h1; have h := cut_out g HEl.out (by rw [hU, hV, hn]; omega) (show 1 < 2 by omega); rw [hx1, hy1, hU, hV] at h; exact h)
  have HLO := hid (cutO_len g HEl.out)
  have HLT := hid (cutT_len g HEl.out)
  have HOe := hid (show exU es U e 3 = cutO es E by unfold cutO; rw [hU, he])
  have HTe := hid (show exU es V e 3 = cutT es E by unfold cutT; rw [hV, he])
  have HXs := hid (And.intro (And.intro hx0 hx1) (And.intro hy0 hy1))
  have hE1 : EndsIn N es := endsIn_of (by rw [hs0]; exact g)
  have HNd := hid (show [U, V].Nodup by simp; omega)
  have HP1 := hid (show ∀ y, y ∈ [U, V] → 0 ≤ y from fun y h => by rcases List.mem_cons.1 h with h | h; omega; have := List.mem_singleton.1 h; omega)
  have Hn := hid hn
  have Hr1 := hid hr
  have Hr : Hid (SeesE w (some ⟨b, off, none⟩) es) := hid (.inr ⟨b, off, rfl, hr⟩)
  have G := hid g
  have EI1 := hid hE1
  have HUV := hid hp
  have HBl := hid (show b < w.heap.size from reads_lt hr (by omega))
  have HS0 := hid hs0
  have HR := hid hrc
  have HCv := hid (And.intro hC hFj)
  have HUe := hid (And.intro hU hV)
  have Q1 := hid (show edgsCode s es [e] = 0 by rw [edgs_one, if_pos g, if_pos ⟨by omega, by omega⟩])
  have e2 : IntKind.i64.wrap (s - 2) = s - 2 := IntWalk.i64_in _ (by omega)
  have hen : e < (n : Int) := by omega
  have he0 : 0 ≤ e := by omega
  have het : e.toNat = E := by omega
  obtain ⟨i0, hi, hz0, hz1, hz2⟩ := info_parts infoEdge
  have Hi := hid hi
  have HAr := hid (show 2 ≤ s ∧ s ≤ 20 ∧ n ≤ 30 ∧ N ≤ 20 ∧ 2 ≤ N ∧ 0 ≤ U ∧ U < s ∧ 0 ≤ V ∧ V < s ∧ U < V ∧ E < n ∧ 3 ≤ n from ⟨by omega, by omega, hn30, by omega, by omega, hp.1, hp.2.1, hp.2.2.1, hp.2.2.2.1, hasc, hE, by omega⟩)
  clear hn hr g hp hasc hrc hU hV hC hFj hx0 hx1 hy0 hy1 hi hE1 hs0 hk hn30 hE
  have HEnd := hid (show C = 1 → endL es U V (arF es U) = cutO es E ∧ endL es U V (arF es V) = cutT es E by
    intro h1
    have g := G.out
    have hp := HUV.out
    have hj : jcU es U V es.length = 1 := by have h := HCv.out.1; rw [Hn.out]; omega
    have a := endL_cut g (v := U) ⟨hp.1, hp.2.1⟩ HEl.out HUe.out.1 HUe.out.2 hj
    have b := endL_cut g (v := V) ⟨hp.2.2.1, hp.2.2.2.1⟩ HEl.out HUe.out.1 HUe.out.2 hj
    rw [a, b, he]
    exact ⟨HOe.out, HTe.out⟩)
  have HWf := hid (show ∀ i, i < es.length → (Lit.int .i64 (eA es i)).wf = true ∧ (Lit.int .i64 (eB es i)).wf = true from fun i hi => by
    have := isG_pos G.out hi
    have ar := HAr.out
    exact ⟨wf_small (by omega), wf_small (by omega)⟩)
  have hwU : (Lit.int .i64 U).wf = true := wf_small (by have ar := HAr.out; omega)
  have hwV : (Lit.int .i64 V).wf = true := wf_small (by have ar := HAr.out; omega)
  have hix0 : ∀ w' : World, (Instr.index 58 (.agg #[.int .i64 U, .int .i64 V]) (.int .i64 0)).run Try.prog w' = .ok (.int .i64 U) w' := fun _ => by kernel_rfl
  have hix1 : ∀ w' : World, (Instr.index 58 (.agg #[.int .i64 U, .int .i64 V]) (.int .i64 1)).run Try.prog w' = .ok (.int .i64 V) w' := fun _ => by kernel_rfl
  have harr : ∀ (g cap : Nat) (w' : World), (Instr.arrayAt 58 (.slice (some ⟨g, 0, none⟩) 2 cap)).run Try.prog w' = .ok (.pointer (some ⟨g, 0, none⟩)) w' := fun _ _ _ => by kernel_rfl
  go_enter Try.func12, Try.ntmps12
  go_wp2_with fail
  refine (iIsGraph_any _ _ _ _ es _ (by have ar := HAr.out; omega) Hn.out (Hr.out.on (bfrom (on_alloc _ _) (on_alloc _ _)))).mono ?_
  rw [decide_eq_true G.out]
  rintro e' w2 ⟨rfl, hb2⟩
  have HB2 := hid (bfrom (w := w) (bfrom (on_alloc _ _) (on_alloc _ _)) hb2)
  have HG2 := hid (((GBox.new w w.heap.size rfl : GBox _ _ s (some ⟨b, off, none⟩) n c).on (on_alloc _ _)).on hb2)
  have HK2 := hid ((GBox.new _ (w.heap.size + 1) (by simp) : GBox _ _ 0 none 0 0).on hb2)
  clear hb2
  have hx2 := HG2.out.box.1
  have hy2 := HG2.out.box.2
  have hl2 := HG2.out.lt
  have hcA := (Hr1.out.on HB2.out E HEl.out).1
  have hcB := (Hr1.out.on HB2.out E HEl.out).2
  rw [HUe.out.1] at hcA
  rw [HUe.out.2] at hcB
  go_wp2_with fail
  refine (iBelow_yes _ _ _ ⟨he0, hen⟩).mono ?_
  rintro e' w' ⟨rfl, rfl⟩
  go_upto_region 6 with fail
  obtain ⟨W3, hW3⟩ : ∃ W3, W3 = w2.alloc (.cells #[.int .i64 U, .int .i64 V] 58) := ⟨_, rfl⟩
  obtain ⟨B, hB⟩ : ∃ B, B = w2.heap.size := ⟨_, rfl⟩
  have HB3 := hid (show Below w.heap.size w W3 by rw [hW3]; exact bfrom HB2.out (on_alloc _ _))
  have HG3 := hid (show GBox W3 w.heap.size s (some ⟨b, off, none⟩) n c by rw [hW3]; exact HG2.out.on (on_alloc _ _))
  have HK3 := hid (show GBox W3 (w.heap.size + 1) 0 none 0 0 by rw [hW3]; exact HK2.out.on (on_alloc _ _))
  have HE3 := hid (show EBox W3 B U V by rw [hW3, hB]; exact heap_alloc_new _ _)
  have hBw : w.heap.size + 1 < B := by rw [hB]; exact HK2.out.lt
  have HJ := hid (show jnN es n U V = C from HCv.out.1)
  rw [← hW3, ← hB]
  clear hW3 hB hx2 hy2 hl2 hcA hcB HG2 HK2 HB2
  have hx3 := HG3.out.box.1
  have hy3 := HG3.out.box.2
  have hl3 := HG3.out.lt
  have hu3 := HE3.out.c0
  have hv3 := HE3.out.c1
  have hm3 := HE3.out.lt
  have hBc : Below W3.heap.size W3 W3 := Below.refl _ _
  go_cut [31] (fun u wx => u = .bool (C != 1) ∧ Hid (Below W3.heap.size W3 wx))
  case first =>
    go_region_with ((go_at_call 44; refine (iCounts_any s b off n c es _ Hn.out (by have ar := HAr.out; omega) ((Hr1.out.on HB3.out).on (by first | exact hBc.drew | exact hBc)) (by have := HBl.out; have := HB3.out.size; first | exact Nat.lt_of_lt_of_le HBl.out HB3.out.size | (simp; omega)) HWf.out).mono ?_; rintro e' w4 ⟨m, rfl, hm4, hM4, hb4⟩; have HBx := hid (bfrom (w := W3) (by first | exact hBc.drew | exact hBc) hb4); clear hBc; have hlook := hM4.look Try.underlying67 hwU hwV; rw [HJ.out] at hlook; have hu4 := ((bcells HBx.out).1 _ 0 hm3).trans hu3; have hv4 := ((bcells HBx.out).1 _ 1 hm3).trans hv3; have hm4' := (HE3.out.on HBx.out).lt))
    all_goals (go_wp2_with fail; go_meet; exact ⟨rfl, HBx⟩)
  case rest =>
  obtain ⟨rfl, hBy⟩ := hcut
  obtain ⟨w4, rfl⟩ : ∃ w4, w4 = wc := ⟨_, rfl⟩
  have HB4 := hid (bfrom HB3.out hBy.out)
  have HG4 := hid (HG3.out.on hBy.out)
  have HK4 := hid (HK3.out.on hBy.out)
  have HE4 := hid (HE3.out.on hBy.out)
  clear hx3 hy3 hl3 hu3 hv3 hm3 hBc HB3 HG3 HK3 HE3 hBy
  have hxb := HG4.out.box.1
  have hyb := HG4.out.box.2
  have hlb := HG4.out.lt
  have hkx := HK4.out.box.1
  have hky := HK4.out.box.2
  have hfx := HK4.out.frozen 0
  have hfy := HK4.out.frozen 1
  have hlk := HK4.out.lt
  by_cases hC1 : C = 1
  · have b1 : (C != 1) = false := by rw [hC1]; rfl
    have hEn := HEnd.out hC1
    have HEn1 := hid hEn.1
    have HEn2 := hid hEn.2
    have HC1 := hid hC1
    clear hC1 hEn hkx hky hfx hfy hlk
    go_wp2_with fail
    refine (cloneE_row b off n c es _ Hn.out (by have ar := HAr.out; omega) (Hr1.out.on HB4.out)).mono ?_
    rintro e' w5 ⟨v5, rfl, ho5, _, hb5⟩
    obtain ⟨g5, cap5, rfl, ho6⟩ := clone_own ho5 Hn.out (by have ar := HAr.out; omega)
    have HB5 := hid (bfrom HB4.out hb5)
    have HGs5 := hid (And.intro (HG4.out.on hb5) (And.intro (HK4.out.on hb5) (HE4.out.on hb5)))
    have HR5 := hid ho5
    have hBs : B < w4.heap.size := HE4.out.lt
    have hsz5 := hb5.size
    clear hb5 ho5 ho6 hxb hyb hlb HG4 HK4 HE4 HB4
    have hu5 := HGs5.out.2.2.c0
    have hv5 := HGs5.out.2.2.c1
    have hm5 := HGs5.out.2.2.lt
    go_wp2_with fail
    go_loopw [7, 37] (fun u i wr => ∃ (k L cap g : Nat), k ≤ 2 ∧ Hid (L = n + k) ∧ u = .slice (some ⟨g, 0, none⟩) L cap ∧ i = .int .i64 k ∧ Hid (wr.ownsRow w4.heap.size 58 2 (.slice (some ⟨g, 0, none⟩) L cap) L (edgeVals (cutK es x0 x1 y0 y1 k))) ∧ Hid ((1 ≤ k → x0 ≠ x1) ∧ (2 ≤ k → y0 ≠ y1)) ∧ Hid (GBox wr w.heap.size s (some ⟨b, off, none⟩) n c ∧ GBox wr (w.heap.size + 1) 0 none 0 0 ∧ EBox wr B U V) ∧ Hid (Below w.heap.size w wr)) (fun _ i _ => 2 - (intOf i).toNat)
    case atStart => exact ⟨0, n, cap5, g5, by omega, hid rfl, rfl, rfl, hid (by rw [show cutK es x0 x1 y0 y1 0 = es by simp [cutK]]; exact HR5.out), hid ⟨fun h => by omega, fun h => by omega⟩, HGs5, HB5⟩
    case round =>
      obtain ⟨k, L, cap, g, hk, hL, rfl, rfl, hO, hNe, hGs, hB⟩ := hrel
      have hxb := hGs.out.1.box.1
      have hyb := hGs.out.1.box.2
      have hlb := hGs.out.1.lt
      have hkx := hGs.out.2.1.box.1
      have hky := hGs.out.2.1.box.2
      have hfx := hGs.out.2.1.frozen 0
      have hfy := hGs.out.2.1.frozen 1
      have hlk := hGs.out.2.1.lt
      have hux := hGs.out.2.2.c0
      have hvx := hGs.out.2.2.c1
      have hlx := hGs.out.2.2.lt
      obtain ⟨wo, rfl⟩ : ∃ wo : World, wo = wr := ⟨_, rfl⟩
      rcases (show k = 0 ∨ k = 1 ∨ k = 2 by omega) with rfl | rfl | rfl
      · go_wp2_with fail
        refine (iEnds2_any s U U V b off n c es (cutO es E) _ (by have ar := HAr.out; omega) Hn.out (Hr1.out.on hB.out) (Nat.lt_of_lt_of_le HBl.out hB.out.size) HEn1.out HLO.out).mono ?_
        rintro e' w6 ⟨g6, cap6, rfl, hg6, ho6, hb6⟩
        have hc0 := ho6.reads 0 (by rw [HLO.out]; omega)
        have hc1 := ho6.reads 1 (by rw [HLO.out]; omega)
        rw [HXs.out.1.1] at hc0
        rw [HXs.out.1.2] at hc1
        rw [Nat.zero_add] at hc0 hc1
        have hg6l := ho6.lt
        have hGs6 := hid (And.intro (hGs.out.1.on hb6) (And.intro (hGs.out.2.1.on hb6) (hGs.out.2.2.on hb6)))
        have hB6 := hid (bfrom hB.out hb6)
        have hO6 := hid (hO.out.kept (below_grown hb6) (.inr (by simp [Value.ownBlock])))
        have hz6 := hb6.size
        have hsz4 : w4.heap.size ≤ wo.heap.size := by have h := hO.out.lt g rfl; omega
        have hD : ∀ j, (Value.slice (some ⟨g, 0, none⟩) L cap).ownBlock = some j → w4.heap.size ≤ j := fun j hj => (hO.out.lt j hj).1
        have HD := hid hD
        have hL32 : L ≤ 40 := by have := hL.out; have ar := HAr.out; omega
        clear ho6 hb6 hD hxb hyb hlb hkx hky hfx hfy hlk hux hvx hlx
        have hxb := hGs6.out.1.box.1
        have hyb := hGs6.out.1.box.2
        have hlb := hGs6.out.1.lt
        have hkx := hGs6.out.2.1.box.1
        have hky := hGs6.out.2.1.box.2
        have hfx := hGs6.out.2.1.frozen 0
        have hfy := hGs6.out.2.1.frozen 1
        have hlk := hGs6.out.2.1.lt
        have hux := hGs6.out.2.2.c0
        have hvx := hGs6.out.2.2.c1
        have hlx := hGs6.out.2.2.lt
        by_cases hx : x0 = x1
        · have b2 : (x0 == x1) = true := by rw [hx]; simp
          have hrc := HR.out
          rw [cutR_no (fun h => (HOk.out.1 h).2.1 hx)] at hrc
          have HRc := hid hrc
          clear hx hrc
          have hq := ((hGs6.out.2.1.set0 0).set1 none 0 0).on (on_alloc _ (.cells #[.int .i64 x0, .int .i64 x1] 58))
          have hq0 := hq.box.1
          have hq1 := hq.box.2
          clear hq
          go_wp2
          refine bodyPost_ret (v := .tuple #[.agg #[.int .i64 0, .slice none 0 0], .int .i64 5]) (by simp [results, Try.results12, go_sem, hq0, hq1]) rfl ?_
          rw [← HRc.out]
          refine ⟨none, 0, rfl, FreshE.nil _ _, ?_⟩
          have h := hB6.out
          go_grown
        · have b2 : (x0 == x1) = false := by rw [beq_eq_false_iff_ne]; exact hx
          have HX := hid hx
          clear hx
          go_wp2_with (at_builtin; refine wpList_append_lies _ rfl (.tmp 52) (.tmp 54) 26 rfl w4.heap.size 58 i0 (.agg #[.int .i64 0, .int .i64 0]) 2 16 Try.underlying26 Hi.out hz0 hz1 hz2 rfl (by decide) (.slice (some ⟨g, 0, none⟩) L cap) L _ rfl ((hO6.out.alloc _).alloc _) ⟨w6.heap.size + 1, 0, none⟩ 1 1 [.int .i64 x0, .int .i64 x1] rfl rfl (World.news_of_block (cs := #[.int .i64 x0, .int .i64 x1]) (t := 58) (fr := (0, 0)) (new_secondC _ _ _ _ rfl)) (by simp [Value.oneCell']) (by decide) (by unfold maxLen; omega) (by omega) (by simp; omega) (w6.heap.size + 1 + 1) (by simp) ?_; intro g8 cap8 w8 hown8 hgr8 hlie8 hgl8; obtain ⟨HG8, HB8⟩ := ce_facts HD.out hGs6.out hB6.out hBw hBs hgr8; have Hown := hid hown8; clear hown8 hgr8 hlie8)
          go_roundw
          case rel => exact ⟨1, L + 1, cap8, g8, by omega, hid (by have := hL.out; omega), rfl, by go_num, hid (by
            have h := Hown.out
            rwa [show edgeVals (cutK es x0 x1 y0 y1 0) ++ [Value.int .i64 x0, Value.int .i64 x1] = edgeVals (cutK es x0 x1 y0 y1 1) by
              rw [show cutK es x0 x1 y0 y1 1 = cutK es x0 x1 y0 y1 0 ++ [(x0, x1)] by simp [cutK], edgeVals_append]; rfl] at h), hid ⟨fun _ => HX.out, fun h => by omega⟩, HG8, HB8⟩
          case measure => simp [intOf]
      · go_wp2_with fail
        refine (iEnds2_any s V U V b off n c es (cutT es E) _ (by have ar := HAr.out; omega) Hn.out (Hr1.out.on hB.out) (Nat.lt_of_lt_of_le HBl.out hB.out.size) HEn2.out HLT.out).mono ?_
        rintro e' w6 ⟨g6, cap6, rfl, hg6, ho6, hb6⟩
        have hc0 := ho6.reads 0 (by rw [HLT.out]; omega)
        have hc1 := ho6.reads 1 (by rw [HLT.out]; omega)
        rw [HXs.out.2.1] at hc0
        rw [HXs.out.2.2] at hc1
        rw [Nat.zero_add] at hc0 hc1
        have hg6l := ho6.lt
        have hGs6 := hid (And.intro (hGs.out.1.on hb6) (And.intro (hGs.out.2.1.on hb6) (hGs.out.2.2.on hb6)))
        have hB6 := hid (bfrom hB.out hb6)
        have hO6 := hid (hO.out.kept (below_grown hb6) (.inr (by simp [Value.ownBlock])))
        have hz6 := hb6.size
        have hsz4 : w4.heap.size ≤ wo.heap.size := by have h := hO.out.lt g rfl; omega
        have hD : ∀ j, (Value.slice (some ⟨g, 0, none⟩) L cap).ownBlock = some j → w4.heap.size ≤ j := fun j hj => (hO.out.lt j hj).1
        have HD := hid hD
        have hL32 : L ≤ 40 := by have := hL.out; have ar := HAr.out; omega
        clear ho6 hb6 hD hxb hyb hlb hkx hky hfx hfy hlk hux hvx hlx
        have hxb := hGs6.out.1.box.1
        have hyb := hGs6.out.1.box.2
        have hlb := hGs6.out.1.lt
        have hkx := hGs6.out.2.1.box.1
        have hky := hGs6.out.2.1.box.2
        have hfx := hGs6.out.2.1.frozen 0
        have hfy := hGs6.out.2.1.frozen 1
        have hlk := hGs6.out.2.1.lt
        have hux := hGs6.out.2.2.c0
        have hvx := hGs6.out.2.2.c1
        have hlx := hGs6.out.2.2.lt
        by_cases hx : y0 = y1
        · have b2 : (y0 == y1) = true := by rw [hx]; simp
          have hrc := HR.out
          rw [cutR_no (fun h => (HOk.out.1 h).2.2 hx)] at hrc
          have HRc := hid hrc
          clear hx hrc
          have hq := ((hGs6.out.2.1.set0 0).set1 none 0 0).on (on_alloc _ (.cells #[.int .i64 y0, .int .i64 y1] 58))
          have hq0 := hq.box.1
          have hq1 := hq.box.2
          clear hq
          go_wp2
          refine bodyPost_ret (v := .tuple #[.agg #[.int .i64 0, .slice none 0 0], .int .i64 5]) (by simp [results, Try.results12, go_sem, hq0, hq1]) rfl ?_
          rw [← HRc.out]
          refine ⟨none, 0, rfl, FreshE.nil _ _, ?_⟩
          have h := hB6.out
          go_grown
        · have b2 : (y0 == y1) = false := by rw [beq_eq_false_iff_ne]; exact hx
          have HX := hid hx
          clear hx
          go_wp2_with (at_builtin; refine wpList_append_lies _ rfl (.tmp 52) (.tmp 54) 26 rfl w4.heap.size 58 i0 (.agg #[.int .i64 0, .int .i64 0]) 2 16 Try.underlying26 Hi.out hz0 hz1 hz2 rfl (by decide) (.slice (some ⟨g, 0, none⟩) L cap) L _ rfl ((hO6.out.alloc _).alloc _) ⟨w6.heap.size + 1, 0, none⟩ 1 1 [.int .i64 y0, .int .i64 y1] rfl rfl (World.news_of_block (cs := #[.int .i64 y0, .int .i64 y1]) (t := 58) (fr := (0, 0)) (new_secondC _ _ _ _ rfl)) (by simp [Value.oneCell']) (by decide) (by unfold maxLen; omega) (by omega) (by simp; omega) (w6.heap.size + 1 + 1) (by simp) ?_; intro g8 cap8 w8 hown8 hgr8 hlie8 hgl8; obtain ⟨HG8, HB8⟩ := ce_facts HD.out hGs6.out hB6.out hBw hBs hgr8; have Hown := hid hown8; clear hown8 hgr8 hlie8)
          go_roundw
          case rel => exact ⟨2, L + 1, cap8, g8, by omega, hid (by have := hL.out; omega), rfl, by go_num, hid (by
            have h := Hown.out
            rwa [show edgeVals (cutK es x0 x1 y0 y1 1) ++ [Value.int .i64 y0, Value.int .i64 y1] = edgeVals (cutK es x0 x1 y0 y1 2) by
              rw [show cutK es x0 x1 y0 y1 2 = cutK es x0 x1 y0 y1 1 ++ [(y0, y1)] by simp [cutK], edgeVals_append]; rfl] at h), hid ⟨fun _ => hNe.out.1 (by omega), fun h => HX.out⟩, HG8, HB8⟩
          case measure => simp [intOf]
      · have hrc := HR.out
        rw [cutR_yes (HOk.out.2 ⟨HC1.out, hNe.out.1 (by omega), hNe.out.2 (by omega)⟩)] at hrc
        have HRc := hid hrc
        have hcp : cutK es x0 x1 y0 y1 2 = cutP es E := by unfold cutP; rw [HXs.out.1.1, HXs.out.1.2, HXs.out.2.1, HXs.out.2.2]; simp [cutK]
        rw [hcp] at hO
        have hcl := cutP_len es E
        rw [Hn.out] at hcl
        have hLL := hL.out
        obtain rfl : L = n + 2 := by omega
        have hj : jcU es (eA es E) (eB es E) es.length = 1 := by rw [HUe.out.1, HUe.out.2, Hn.out]; have h := HCv.out.1; have h2 := HC1.out; omega
        have hsm := cut_same G.out HEl.out hj
        rw [HUe.out.1, HUe.out.2, hcl] at hsm
        have hmn := cutM_len es E
        obtain ⟨M, hM⟩ : ∃ M, (cutM es E).length = M := ⟨_, rfl⟩
        rw [hM] at hmn
        have HM := hid (And.intro hM hmn)
        have HSm := hid hsm
        have HCl := hid hcl
        have HPi := hid (show ∀ i, i < n + 2 → (0 ≤ eA (cutP es E) i ∧ eA (cutP es E) i ≤ 1000) ∧ (0 ≤ eB (cutP es E) i ∧ eB (cutP es E) i ≤ 1000) from fun i hi => cutP_in G.out HEl.out (by rw [Hn.out]; exact hi))
        have HOr := hid (OwnE.of_row (es := cutP es E) hO.out hcl)
        have hgl := HOr.out.1.lt
        clear hrc hcp hcl hLL hj hsm hM hmn hO
        go_wp2_with fail
        refine (iWithout_any s g 0 (n + 2) cap wo.heap.size 0 2 2 M (cutP es E) [U, V] _ HCl.out (by have ar := HAr.out; omega) ((HOr.out.1.alloc _).reads) (by simp; omega) rfl (by omega) (reads_twoM _ _ _ _ _ rfl) (by have ar := HAr.out; omega) HPi.out (by rw [HSm.out]; exact HM.out.1) (by have := HM.out.2; omega)).mono ?_
        rw [HSm.out]
        rintro e' w9 ⟨gd, rfl, hgd, hod, hbD⟩
        have HB9 := hid (bfrom (bfrom hB.out (on_alloc _ _)) hbD)
        have HK9 := hid ((hGs.out.2.1.on (on_alloc _ _)).on hbD)
        have HOd := hid hod
        simp only [World.size_alloc] at hgd
        clear hod hbD hxb hyb hlb hkx hky hfx hfy hlk hux hvx hlx
        have hkx := HK9.out.box.1
        have hky := HK9.out.box.2
        have hfx := HK9.out.frozen 0
        have hfy := HK9.out.frozen 1
        have hlk := HK9.out.lt
        have hlw := hGs.out.2.1.lt
        go_wp2
        refine bodyPost_ret (v := .tuple #[.agg #[.int .i64 (s - 2), .slice (some ⟨gd, 0, none⟩) M M], .int .i64 0]) (by simp [results, Try.results12, go_sem, hkx, hky]) rfl ?_
        rw [← HRc.out]
        dsimp only
        rw [sortE_length, HM.out.1]
        refine ⟨some ⟨gd, 0, none⟩, M, rfl, ?_, ?_⟩
        · have hne : gd ≠ w.heap.size + 1 := by omega
          exact FreshE.of_own (g := gd) ((HOd.out.far hne _).far hne _) (by rw [sortE_length]; exact HM.out.1) (by omega)
        · have h := HB9.out
          go_grown
  · have b1 : (C != 1) = true := by simpa using hC1
    have hrc := HR.out
    rw [cutR_no (fun h => hC1 (HOk.out.1 h).1)] at hrc
    have HRc := hid hrc
    clear hC1 hrc
    go_wp2
    refine bodyPost_ret (v := .tuple #[.agg #[.int .i64 0, .slice none 0 0], .int .i64 5]) (by simp [results, Try.results12, go_sem, hkx, hky]) rfl ?_
    rw [← HRc.out]
    refine ⟨none, 0, rfl, FreshE.nil _ _, ?_⟩
    have h := HB4.out
    go_grown

end Go.Proofs.Ytemhbbggnednpaa
