/- CyclesLeft in the program: the loop over the cycles. -/
import Derived.Test.YthncgpbgffbpgaaCycL
namespace Go.Proofs.Ythncgpbgffbpgaa
open Go.RowKit Go.Shelf

attribute [local go_sem] Oper.semAt_some

theorem lens_vals {ys : List CyX} {Ls : List (List Int)} (h : ys.map (fun x => x.2.2) = Ls) : (ys.map fun x => Value.int .i64 (x.2.2.length : Int)) = intVals (lensL Ls) := by
  subst h
  unfold intVals lensL
  rw [List.map_map, List.map_map]
  rfl

set_option maxRecDepth 100000 in
set_option maxHeartbeats 8000000 in
theorem iCyclesLeft_yes (N b off n c : Nat) (ps : Option Addr) (m f0 : Nat) (es : List (Int × Int)) (xs : List Int) (w : World) (hn : es.length = n) (hr : ReadsE w b off es) (g : IsG N es) (hx : xs.length = m) (hm9 : m ≤ 1048576) (hrx : SeesI w ps xs) (hmt : isMatP N es xs) :
    Calls Try.prog 10 #[.agg #[.int .i64 N, .slice (some ⟨b, off, none⟩) n c], .slice ps m f0] w fun e' w' => ∃ q cap, e' = .returned (.tuple #[.slice q (srtI (lensL (cyU es (freeB es xs) (nxF es xs) n))).length cap, .int .i64 0]) ∧ FreshI w.heap.size w' q (srtI (lensL (cyU es (freeB es xs) (nxF es xs) n))).length cap (srtI (lensL (cyU es (freeB es xs) (nxF es xs) n))) ∧ Below w.heap.size w w' := by
  have hn30 : n ≤ 30 := by have := isG_len g; omega
  have HK30 := hid (show (cyU es (freeB es xs) (nxF es xs) n).length ≤ 30 by have := cyU_len es (freeB es xs) (nxF es xs) n; omega)
  have HK0 := hid (show 0 < (cyU es (freeB es xs) (nxF es xs) n).length by have := cyU_some g hmt; rwa [hn] at this)
  obtain ⟨Ls, hLs⟩ : ∃ Ls, cyU es (freeB es xs) (nxF es xs) n = Ls := ⟨_, rfl⟩
  rw [hLs] at HK30 HK0 ⊢
  have HLs := hid hLs
  have Hn := hid hn
  have Hr := hid hr
  have Hx := hid hx
  have Hrx := hid hrx
  have G := hid g
  have Hmt := hid hmt
  have HC0 := hid (show matCode N es xs = 0 by unfold matCode; rw [if_pos g, if_pos hmt])
  obtain ⟨i0, hi, hz0, hz1, hz2⟩ := info_parts infoInt
  have Hi := hid hi
  have hbb : b < w.heap.size := reads_lt hr (by have := isG_len g; have := g.1.1.2.2.2; have := g.1.1.1; omega)
  clear hn hr hx hrx g hmt hi hLs
  refine (callsIn_wide (n := 6)).1 ?_
  refine callsIn_of_wp_marks Try.func10 rfl trivial ?_ rfl
  simp only [Try.ntmps10, List.size_toArray, List.length_cons, List.length_nil, Nat.reduceAdd, Nat.reduceSub, Array.replicate_succ, Array.replicate_zero, List.push_toArray, List.append_toArray, List.nil_append, List.cons_append]
  gi_wp2_with (first
    | (refine ⟨trivial, ?_⟩; gi_at_call 25; refine (callsIn_wide.2 (iMatCode_any _ _ _ _ _ _ _ es xs _ (by omega) Hn.out (.inr ⟨b, off, rfl, Hr.out.on (on_alloc _ _)⟩) hm9 Hx.out (Hrx.out.on (on_alloc _ _)))).mono ?_; rw [HC0.out]; rintro e w2 ⟨rfl, hb2⟩; have hX2 := (Box.new w N (some ⟨b, off, none⟩) n c 31).on hb2; have hx2 := hX2.1; have hy2 := hX2.2; have hz2' := hX2.lt)
    | (refine ⟨trivial, ?_⟩; gi_at_call 26; refine (callsIn_wide.2 (iLeft_func _ _ _ _ _ _ _ _)).mono ?_; rintro e w' ⟨rfl, rfl⟩))
  have hB2 : Below w.heap.size w w2 := bfrom (on_alloc _ _) hb2
  have hz2s : w.heap.size ≤ w2.heap.size := hB2.size
  have HB2 := hid hB2
  clear hb2 hB2 hx2 hy2
  have hbG := ((Box.new (w2.alloc (.cells #[.slice none 0 0] 25)) N (some ⟨b, off, none⟩) n c 31).on (on_alloc _ (.cells #[.slice ps m f0] 25)))
  have hbL := (Boxed.new ((w2.alloc (.cells #[.slice none 0 0] 25)).alloc (.cells #[.int .i64 N, .slice (some ⟨b, off, none⟩) n c] 31)) 25 (.slice ps m f0)).cell
  have hB0 : Below w2.heap.size w2 (((w2.alloc (.cells #[.slice none 0 0] 25)).alloc (.cells #[.int .i64 N, .slice (some ⟨b, off, none⟩) n c] 31)).alloc (.cells #[.slice ps m f0] 25)) := bfrom (bfrom (on_alloc _ _) (on_alloc _ _)) (on_alloc _ _)
  have bO := ((Boxed.new w2 25 (.slice none 0 0)).alloc (.cells #[.int .i64 N, .slice (some ⟨b, off, none⟩) n c] 31)).alloc (.cells #[.slice ps m f0] 25)
  simp only [World.size_alloc] at hbG hbL
  refine rangeFunc_moves (n := 6) rfl (by omega) (gf := 41) (lb := #[.pointer (some ⟨w2.heap.size + 1, 0, none⟩), .pointer (some ⟨w2.heap.size + 1 + 1, 0, none⟩)]) rfl trivial (enters_of Try.func41 (by kernel_rfl) rfl) (A := w2.heap.size + 5) (by simp)
    (cycles_moves 4 w2.heap.size (w2.heap.size + 5) (w2.heap.size + 1) (w2.heap.size + 1 + 1) N b off n c m f0 ps es xs _ (by simp; omega) (by simp) (by simp) (by simp) Hn.out (by omega) ((Hr.out.on HB2.out).on hB0) G.out Hx.out hm9 ((Hrx.out.on HB2.out).on hB0) Hmt.out hbG.1 hbG.2 hbL)
    (fun h k => h.trans k) (fun W l o o' h1 h2 hl ho => (Kept.refl _ W).row (grownBy_putObj' W l o') (fun r e h => by cases e; simp at h1; omega))
    (fun Y Z i o h h1 h2 ho => (h.same i (by omega) (Array.getElem?_eq_some_iff.1 ho).1).trans ho) (fun Y Z h => h.size) (fun x W l o o' h _ _ hl ho => seesI_putObj h hl ho) (Below.refl _ _) (fun _ => rfl)
    (fun (pre : List CyX) W => (∃ u, Boxed W w2.heap.size 25 u ∧ W.ownsRow (w2.heap.size + 6) 2 1 u pre.length (pre.map fun x => Value.int .i64 (x.2.2.length : Int)) ∧ True) ∧ Below w2.heap.size w2 W)
    (fun _ _ _ => False)
    (OwnFrom.and (Own.from (holdsRow_own (w2.heap.size + 6) w2.heap.size 25 2 1 (fun (pre : List CyX) => pre.length) (fun (pre : List CyX) => pre.map fun x => Value.int .i64 (x.2.2.length : Int)) (fun _ _ => True)) _) (ownFrom_below (Nat.le_refl _) (by simp; omega)))
    (fun _ _ _ _ _ hs _ _ => hs)
    (fun s Y Z h hm => by
      obtain ⟨⟨u, hu, hrow, _⟩, hB⟩ := h
      exact ⟨⟨u, box_moved hu hm (by omega), row_moved hrow hm (by omega), trivial⟩, hB.trans (hm.below (fun i hi => by omega) hB.size)⟩)
    (fun _ _ _ _ h _ => h)
    ⟨⟨_, bO, World.ownsRow_nil _ _ _ _, trivial⟩, hB0⟩
    ?a1 ?assign ?body ?done ?stop
  case assign =>
    intro l x W K hK
    gi_wp2
    exact hK
  case body =>
    rintro l pre x W ⟨⟨u, hu, hrow, _⟩, hB⟩ hX hA hlt
    have hc := hu.cell
    have hpl : pre.length < 31 := by have := HK30.out; rw [HLs.out] at hlt; omega
    gi_wp2_with (gi_at_builtin; refine wpListIn_append_own _ rfl _ _ 25 rfl (w2.heap.size + 6) 2 i0 (.int .i64 0) 1 8 Try.underlying25 Hi.out hz0 hz1 hz2 rfl (by decide) _ _ _ rfl (hrow.alloc _) ⟨W.heap.size, 0, none⟩ 1 1 [.int .i64 (x.2.2.length : Int)] rfl rfl (cell_one_new _ _ _) (by simp [Value.oneCell']) (by unfold maxLen; omega) (by omega) (by simp; omega) ?_; intro v' w1 hown' hgrow _; obtain ⟨g', cap', rfl⟩ := ownsRow_succ hown'; have hu1 : Boxed w1 w2.heap.size 25 u := (hu.alloc _).kept hgrow (hu.not_row (by decide) hrow); have hc1 := hu1.cell; have hf1 := hu1.frozen)
    obtain ⟨_, hu2, _, hk2, hb2⟩ := hu.appended (by decide) (row_less2 hrow (by omega)) hB.size (Nat.le_refl _) (row_less2 hown' (by omega)) hgrow
    refine ⟨hk2.from _, ⟨hb2.os, hb2.tape, hb2.output, hb2.size, fun i hi hl => ?_⟩, ⟨⟨_, hu2, ?_, trivial⟩, hB.trans hb2⟩⟩
    · rcases Nat.lt_or_ge i w2.heap.size with h9 | h9
      · exact hb2.block i h9
      · have h1 := hgrow.block i (by simp; omega) (fun h => by have := (hrow.lt _ h.symm).1; omega)
        exact (heap_setCell_other w1 ⟨w2.heap.size, 0, none⟩ _ _ (by show i ≠ w2.heap.size; omega)).trans (h1.trans (Below.heap_alloc W _ _ hl))
    · have h2 := hown'.kept (grownBy_setCell' w1 w2.heap.size (.slice (some ⟨g', 0, none⟩) (pre.length + 1) cap')) (.inr (hu1.not_row (by decide) hown').symm)
      simpa using h2
  case done =>
    rintro D ys W hD hS ⟨⟨u, hu, hrow, _⟩, hB⟩ hK
    have hS' := hS
    rw [HLs.out] at hS'
    have hl := len_of_map hS'
    rw [lens_vals hS', hl] at hrow
    have hK30 := HK30.out
    have hK0 := HK0.out
    obtain ⟨K, hKk⟩ : ∃ K, Ls.length = K := ⟨_, rfl⟩
    rw [hKk] at hrow hK30 hK0
    have HKk := hid hKk
    obtain ⟨gS, capS, rfl⟩ : ∃ gS capS, u = .slice (some ⟨gS, 0, none⟩) K capS := by
      rcases hrow.2 with ⟨_, h0⟩ | ⟨gS, capS, cur, hv, _⟩
      · omega
      · exact ⟨gS, capS, hv⟩
    obtain ⟨hO, hgS⟩ := OwnI.of_row hrow (by rw [lensL_len, hKk])
    have hc := hu.cell
    have hDg : D ≠ gS := fun e => by
      subst e
      obtain ⟨cur, hcur, _⟩ := hO
      rw [hK] at hcur
      cases hcur
    have HO := hid hO
    clear hS hS' hl hKk hrow hO
    gi_wp2_with (refine ⟨trivial, ?_⟩; gi_at_call 27; refine (callsIn_wide.2 (sortI_any gS capS K (lensL Ls) W HO.out (by rw [lensL_len, HKk.out]) (by omega))).mono ?_; rintro e' w5 ⟨rfl, hO5, hg5⟩; have hu5 := hu.kept hg5 (fun e => by have e1 : w2.heap.size = gS := Option.some.inj e; omega); have hc5 := hu5.cell; have HO5 := hid hO5; clear hO5)
    have hK5 : w5.heap[D]? = some (.deferred (some [])) := (hg5.block D (Array.getElem?_eq_some_iff.1 hK).1 (fun e => hDg (Option.some.inj e))).trans hK
    refine ⟨by simp, .inl ⟨_, _, rfl, run_takeDeferred hK5, ?_⟩⟩
    have hl5 : (srtI (lensL Ls)).length = K := by rw [srtI_len, lensL_len, HKk.out]
    have hf := FreshI.of_own (n := K) (B := w.heap.size) (show OwnI w5 gS capS (srtI (lensL Ls)) from HO5.out) hl5 (by omega)
    have hrw := ownsRow_putObj hf.1 (.deferred none) hK5 rfl
    have hBw : Below w.heap.size w w5 := (bfrom HB2.out hB).grown hg5 (by have := hB.size; omega) (fun k e => by have e1 : gS = k := Option.some.inj e; omega)
    rw [hl5]
    exact ⟨_, results_tmp2 rfl _ _ _, some ⟨gS, 0, none⟩, capS, rfl, ⟨hrw, hl5⟩, hBw.grown (grownBy_putObj' w5 D _) hBw.size (fun k e => by have e1 : D = k := Option.some.inj e; simp at hD; omega)⟩
  case stop =>
    rintro D c pre W _ _ h _
    exact h.elim

end Go.Proofs.Ythncgpbgffbpgaa
