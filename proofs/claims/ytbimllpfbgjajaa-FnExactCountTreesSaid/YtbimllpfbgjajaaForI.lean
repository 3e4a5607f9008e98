/- The spanning trees in the program: countForestsFrom with the root 0. -/
import Derived.Test.YtbimllpfbgjajaaTreeC
import Derived.Test.YtbimllpfbgjajaaForA
import Derived.Test.YtbimllpfbgjajaaZrT
import Derived.Test.YtbimllpfbgjajaaBinS
import Derived.Test.YtbimllpfbgjajaaSetI
import Derived.Test.YtbimllpfbgjajaaDistM
import Derived.Test.YtbimllpfbgjajaaRndH
namespace Go.Proofs.Ytbimllpfbgjajaa
open Go.RowKit Go.Shelf

attribute [local go_sem] Oper.semAt_some

set_option maxRecDepth 100000 in
set_option maxHeartbeats 32000000 in
theorem iForests_any (N b off n c rb ro rc : Nat) (es : List (Int × Int)) (w : World) (hn : es.length = n) (hr : ReadsE w b off es) (g : IsG N es) (hroot : w.cell? ⟨rb, ro, none⟩ = some (.int .i64 0)) :
    Calls Try.prog 62 #[.agg #[.int .i64 N, .slice (some ⟨b, off, none⟩) n c], .slice (some ⟨rb, ro, none⟩) 1 rc] w fun e w' => e = .returned (.int .i64 (detT (N - 1) (N - 1) 1 (matT es))) ∧ Below w.heap.size w w' := by
  have hN20 : N ≤ 20 := by have := g.1.1.2.1; omega
  have hN2 : 2 ≤ N := by have := g.1.1.1; omega
  have hn30 : n ≤ 30 := by have := isG_len g; omega
  have Hn := hid hn
  have Hr := hid hr
  have G := hid g
  have Hroot := hid hroot
  have hbw := reads_lt hr (by have := g.1.1.2.2.2; omega)
  have hrw := World.block_lt_of_cell? w _ hroot
  dsimp only at hrw
  obtain ⟨D, hD⟩ : ∃ D, detT (N - 1) (N - 1) 1 (matT es) = D := ⟨_, rfl⟩
  have HD := hid hD
  rw [hD]
  obtain ⟨i0, hi, hz0, hz1, hz2⟩ := info_parts infoInt
  have Hi := hid hi
  obtain ⟨s0, hsi, hs0, hs1, hs2⟩ := info_parts infoSlN
  have Hs := hid hsi
  obtain ⟨M, hM⟩ : ∃ M, N - 1 = M := ⟨_, rfl⟩
  have hM1 : 1 ≤ M := by omega
  have hM19 : M ≤ 19 := by omega
  rw [hM] at HD
  have HM := hid (show N = M + 1 by omega)
  have hmkI0 : ∀ w', (Instr.makeSlice 34 (.int .i64 M) (.int .i64 M)).run Try.prog w' = .ok (.slice (some ⟨w'.heap.size, 0, none⟩) M M) (w'.alloc (.cells (madeCells (Value.int .i64 0).cells (M * 1)) 2)) := fun w' => by
    have h := run_makeSlice (P := Try.prog) w' 34 2 i0 (.int .i64 0) Try.underlying34 hi hz0 .i64 .i64 M M (by omega) (by omega) (by rw [hz1]; omega) (by rw [hz2]; omega) (by omega)
    rw [hz1] at h
    simpa using h
  have hmkS0 : ∀ w', (Instr.makeSlice 55 (.int .i64 M) (.int .i64 M)).run Try.prog w' = .ok (.slice (some ⟨w'.heap.size, 0, none⟩) M M) (w'.alloc (.cells (madeCells (Value.slice none 0 0).cells (M * 1)) 34)) := fun w' => by
    have h := run_makeSlice (P := Try.prog) w' 55 34 s0 (.slice none 0 0) Try.underlying55 hsi hs0 .i64 .i64 M M (by omega) (by omega) (by rw [hs1]; omega) (by rw [hs2]; omega) (by omega)
    rw [hs1] at h
    simpa using h
  obtain ⟨ZI, hZI⟩ : ∃ ZI, madeCells (Value.int .i64 0).cells (M * 1) = ZI := ⟨_, rfl⟩
  obtain ⟨ZS, hZS⟩ : ∃ ZS, madeCells (Value.slice none 0 0).cells (M * 1) = ZS := ⟨_, rfl⟩
  rw [hZI] at hmkI0
  rw [hZS] at hmkS0
  have HZS := hid (show ZS.size = M by rw [← hZS, size_madeCells, Nat.mul_one])
  have HZI := hid (show ∀ W : World, OwnI (W.alloc (.cells ZI 2)) W.heap.size M (List.replicate M 0) from fun W => by
    have h1 := World.alloc_heap_new W (.cells ZI 2)
    refine ⟨ZI, h1, by rw [← hZI, size_madeCells, Nat.mul_one], by simp, by unfold maxLen; omega, fun i hi => ?_⟩
    rw [List.length_replicate] at hi
    rw [← hZI, ← Array.getElem?_toList, show (Value.int .i64 0).cells = #[Value.int .i64 0] from rfl, toList_madeCells_one, Nat.mul_one, List.getElem?_replicate, if_pos hi]
    simp [eI, hi])
  clear hn hr g hroot hD hi hsi hM hZI hZS
  refine (callsIn_wide (n := 6)).1 ?_
  refine callsIn_of_wp_marks Try.func62 rfl trivial ?_ rfl
  simp only [Try.ntmps62, List.size_toArray, List.length_cons, List.length_nil, Nat.reduceAdd, Nat.reduceSub, Array.replicate_succ, Array.replicate_zero, List.push_toArray, List.append_toArray, List.nil_append, List.cons_append]
  gi_wp2
  have hX0 := (Box.new w N (some ⟨b, off, none⟩) n c 30).on (on_alloc _ (.cells #[.slice none 0 0] 34))
  have hB0 : Below w.heap.size w ((w.alloc (.cells #[.int .i64 (N : Int), .slice (some ⟨b, off, none⟩) n c] 30)).alloc (.cells #[.slice none 0 0] 34)) := bfrom (on_alloc w _) (on_alloc _ _)
  have hs : ((w.alloc (.cells #[.int .i64 (N : Int), .slice (some ⟨b, off, none⟩) n c] 30)).alloc (.cells #[.slice none 0 0] 34)).heap.size = w.heap.size + 2 := by simp
  have hu0 : Boxed ((w.alloc (.cells #[.int .i64 (N : Int), .slice (some ⟨b, off, none⟩) n c] 30)).alloc (.cells #[.slice none 0 0] 34)) (w.heap.size + 1) 34 (.slice none 0 0) := by
    have h := Boxed.new (w.alloc (.cells #[.int .i64 (N : Int), .slice (some ⟨b, off, none⟩) n c] 30)) 34 (.slice none 0 0)
    rwa [World.size_alloc] at h
  obtain ⟨w1, hw1⟩ : ∃ w1, ((w.alloc (.cells #[.int .i64 (N : Int), .slice (some ⟨b, off, none⟩) n c] 30)).alloc (.cells #[.slice none 0 0] 34)) = w1 := ⟨_, rfl⟩
  rw [hw1] at hX0 hB0 hs hu0 ⊢
  clear hw1
  have HX0 := hid hX0
  have HB0 := hid hB0
  have HU0 := hid hu0
  have Hs1 := hid hs
  clear hX0 hB0 hs hu0
  gi_loopw [16] (fun iv wr => ∃ (v K cap : Nat) (q : Option Addr), v ≤ N ∧ iv = .int .i64 v ∧ Hid (K = v - 1) ∧ Hid (Boxed wr (w.heap.size + 1) 34 (.slice q K cap)) ∧ Hid (wr.ownsRow (w.heap.size + 2) 2 1 (.slice q K cap) K (intVals (ascL K))) ∧ Hid (Below (w.heap.size + 1) w1 wr ∧ w.heap.size + 2 ≤ wr.heap.size)) (fun iv _ => N - (intOf iv).toNat)
  case atStart => exact ⟨0, 0, 0, none, Nat.zero_le _, rfl, hid rfl, HU0, hid (World.ownsRow_nil _ _ _ _), hid ⟨Below.refl _ _, by have := Hs1.out; omega⟩⟩
  case round =>
    obtain ⟨v, K, cap, q, hv, rfl, hK, hU, hO, hB⟩ := hrel
    have hBz := hB.out.2
    have HBw := hid (show Below w.heap.size w wr from HB0.out.trans (hB.out.1.mono (by omega)))
    have hc5 := hU.out.cell
    have hf5 := hU.out.frozen
    have hl5 := hU.out.lt
    have hx1 := (hB.out.1.cell (p := ⟨w.heap.size, 0, none⟩) (by show w.heap.size < w.heap.size + 1; omega)).trans HX0.out.1
    have hx2 := (hB.out.1.cell (p := ⟨w.heap.size, 1, none⟩) (by show w.heap.size < w.heap.size + 1; omega)).trans HX0.out.2
    have hxz : w.heap.size < wr.heap.size := by omega
    obtain ⟨wi, rfl⟩ : ∃ wi : World, wi = wr := ⟨_, rfl⟩
    by_cases hlt : v < N
    · have hlt' : (v : Int) < (N : Int) := by omega
      have hSee : SeesI wi (some ⟨rb, ro, none⟩) [0] := .inr ⟨rb, ro, rfl, fun i hi => by
        have h0 : i = 0 := by simpa using hi
        subst h0
        exact ((bcells HBw.out).1 rb (ro + 0) hrw).trans Hroot.out⟩
      have HSee := hid hSee
      clear hSee
      by_cases hv0 : v = 0
      · subst hv0
        gi_wp2_with (refine ⟨trivial, ?_⟩; gi_at_call 95; refine (callsIn_wide.2 (iContains_any _ 1 _ 0 [0] _ rfl (by omega) HSee.out)).mono ?_; rw [decide_eq_true (by simp)]; rintro e w' ⟨rfl, rfl⟩)
        go_roundw
        case rel => exact ⟨1, K, cap, q, by omega, by go_num, hid (by have := hK.out; omega), hU, hO, hB⟩
        case measure => simp [intOf]; omega
      · have hK20 : K ≤ 20 := by have := hK.out; omega
        gi_wp2_with (first
          | (refine ⟨trivial, ?_⟩; gi_at_call 95; refine (callsIn_wide.2 (iContains_any _ 1 _ v [0] _ rfl (by omega) HSee.out)).mono ?_; rw [decide_eq_false (by simp; omega)]; rintro e w' ⟨rfl, rfl⟩)
          | (gi_at_builtin; refine wpListIn_append_own _ rfl _ _ 34 rfl (w.heap.size + 2) 2 i0 (.int .i64 0) 1 8 Try.underlying34 Hi.out hz0 hz1 hz2 rfl (by decide) _ _ _ rfl (hO.out.alloc _) ⟨wi.heap.size, 0, none⟩ 1 1 [.int .i64 (v : Int)] rfl rfl (cell_one_new _ _ _) (by simp [Value.oneCell']) (by unfold maxLen; omega) (by omega) (by simp; omega) ?_; intro v' w8 hown' hgrow _; obtain ⟨g', cap', rfl⟩ := ownsRow_succ hown'; have hu1 : Boxed w8 (w.heap.size + 1) 34 (.slice q K cap) := (hU.out.alloc _).kept hgrow (hU.out.not_row (by decide) hO.out); have hc8 := hu1.cell; have hf8 := hu1.frozen; have hl8 := hu1.lt; have HU1 := hid hu1; have HO8 := hid hown'; have HG8 := hid hgrow; clear hu1 hown' hgrow))
        go_roundw
        case rel =>
          have hgz : w.heap.size + 1 ≤ wi.heap.size := by omega
          have h8 : Below (w.heap.size + 1) w1 w8 := (hB.out.1.alloc hgz _).grown HG8.out (by simp; omega) (fun k e => by have := (hO.out.lt k e).1; omega)
          have hz8 : w.heap.size + 2 ≤ w8.heap.size := by have := HG8.out.size; simp at this; omega
          exact ⟨v + 1, K + 1, cap', some ⟨g', 0, none⟩, by omega, by go_num, hid (by have := hK.out; omega), hid (HU1.out.set _), hid (by
            have h := ownsRow_setCell_below HO8.out (a := ⟨w.heap.size + 1, 0, none⟩) (by show w.heap.size + 1 < w.heap.size + 2; omega) (.slice (some ⟨g', 0, none⟩) (K + 1) cap')
            rw [ascL_push, intVals_append]
            have e : (v : Int) = (K : Int) + 1 := by have := hK.out; omega
            rw [e] at h
            exact h), hid ⟨h8.setCell (p := ⟨w.heap.size + 1, 0, none⟩) (Nat.le_refl _) _, by simpa [World.setCell] using hz8⟩⟩
        case measure => simp [intOf]; omega
    · obtain rfl : N = v := by omega
      obtain rfl : M = K := by have := hK.out; have := HM.out; omega
      obtain ⟨go, rfl, hOgo, hgo2⟩ : ∃ go, q = some ⟨go, 0, none⟩ ∧ OwnI wi go cap (ascL M) ∧ w.heap.size + 2 ≤ go := by
        rcases hO.out.2 with ⟨_, h0⟩ | ⟨g1, cap1, cur, hv', hrest⟩
        · omega
        · injection hv' with e1 e2 e3
          subst e1
          have h := OwnI.of_row hO.out (ascL_len M)
          exact ⟨g1, rfl, h.1, h.2⟩
      have hgo1 := hOgo.lt
      have HOgo := hid hOgo
      clear hOgo
      gi_wp2
      have hM2 : FM ((wi.alloc (.cells ZS 34)).alloc (.cells #[.slice (some ⟨wi.heap.size, 0, none⟩) M M] 55)) ((wi.alloc (.cells ZS 34)).alloc (.cells #[.slice (some ⟨wi.heap.size, 0, none⟩) M M] 55)) wi.heap.size M 0 [] (fun _ => 0) (fun _ _ => 0) := by
        refine ⟨Below.refl _ _, ?_, ⟨ZS, ?_, HZS.out, fun i hi => absurd hi (by omega)⟩, fun i hi => absurd hi (by omega), fun i j hi => absurd hi (by omega), fun D hD => (by cases hD), by simp⟩
        · have h := Boxed.new (wi.alloc (.cells ZS 34)) 55 (.slice (some ⟨wi.heap.size, 0, none⟩) M M)
          rwa [World.size_alloc] at h
        · exact (Below.heap_alloc _ _ _ (by simp)).trans (World.alloc_heap_new wi (.cells ZS 34))
      have hb2 : Below wi.heap.size wi ((wi.alloc (.cells ZS 34)).alloc (.cells #[.slice (some ⟨wi.heap.size, 0, none⟩) M M] 55)) := bfrom (on_alloc _ _) (on_alloc _ _)
      obtain ⟨w2, hw2⟩ : ∃ w2, ((wi.alloc (.cells ZS 34)).alloc (.cells #[.slice (some ⟨wi.heap.size, 0, none⟩) M M] 55)) = w2 := ⟨_, rfl⟩
      rw [hw2] at hM2 hb2 ⊢
      clear hw2
      have HB2 := hid (show Below w.heap.size w w2 from HBw.out.trans (hb2.mono (by omega)))
      have HU2 := hid (show Boxed w2 (w.heap.size + 1) 34 (.slice (some ⟨go, 0, none⟩) M cap) from (hb2.block _ hl5).trans hU.out)
      have HO2 := hid (HOgo.out.on hb2)
      have HX2 := hid (show w2.cell? ⟨w.heap.size, 0, none⟩ = some (.int .i64 N) ∧ w2.cell? ⟨w.heap.size, 1, none⟩ = some (.slice (some ⟨b, off, none⟩) n c) from ⟨((bcells hb2).1 _ _ hxz).trans hx1, ((bcells hb2).1 _ _ hxz).trans hx2⟩)
      obtain ⟨gq, hgq⟩ : ∃ gq, wi.heap.size = gq := ⟨_, rfl⟩
      rw [hgq] at hM2 hb2 hgo1 hBz hxz hl5 ⊢
      have HM2 := hid hM2
      clear hM2 hb2 HBw hB hU hO hK hc5 hf5 hx1 hx2 HOgo hgq HB0 HX0 HU0 Hs1 hlt hv
      refine wpIn_loop (fun a' W => ∃ (K : Nat) (Ds : List Nat) (gf : Nat → Nat) (x8 x9 x34 x35 x36 x37 x38 x39 x40 x41 x42 x43 x44 x45 x46 x47 x48 x49 x50 x51 x52 x71 : Value), a' = { tmps := #[.agg #[.int .i64 (N : Int), .slice (some ⟨b, off, none⟩) n c], .slice (some ⟨rb, ro, none⟩) 1 rc, .pointer (some ⟨w.heap.size, 0, none⟩), undef, .int .i64 0, .pointer (some ⟨w.heap.size + 1, 0, none⟩), u6, .pointer (some ⟨gq + 1, 0, none⟩), x8, x9, undef, undef, undef, undef, .pointer (some ⟨w.heap.size, 0, none⟩), .int .i64 (N : Int), .int .i64 (N : Int), .bool false, u18, u19, u20, u21, u22, u23, u24, u25, u26, u27, .slice (some ⟨go, 0, none⟩) M cap, .int .i64 (M : Int), .slice (some ⟨gq, 0, none⟩) M M, .slice (some ⟨go, 0, none⟩) M cap, .int .i64 (M : Int), .int .i64 (K : Int), x34, x35, x36, x37, x38, x39, x40, x41, x42, x43, x44, x45, x46, x47, x48, x49, x50, x51, x52, undef, undef, undef, undef, undef, undef, undef, undef, undef, undef, undef, undef, undef, undef, undef, undef, undef, undef, x71, undef, undef], defers := colls Ds } ∧ K ≤ M ∧ Hid (FM w2 W gq M K Ds gf (matT es)) ∧ Hid Ds.Nodup) (fun a' _ => M - (intOf (a'.tmps.getD 33 undef)).toNat) ?start ?round
      case start =>
        refine ⟨0, [], fun _ => 0, _, _, _, _, _, _, _, _, _, _, _, _, _, _, _, _, _, _, _, _, _, _, rfl, Nat.zero_le _, hid (HM2.out.ext fun k l hk => absurd hk (by omega)), hid (by simp)⟩
      case round =>
        rintro a' W ⟨K, Ds, gf, x8, x9, x34, x35, x36, x37, x38, x39, x40, x41, x42, x43, x44, x45, x46, x47, x48, x49, x50, x51, x52, x71, rfl, hKM, hM, hD⟩
        clear HM2
        have HBW := hid (show Below w.heap.size w W from HB2.out.trans (hM.out.below.mono (by omega)))
        have hx1 := (hM.out.below.cell (p := ⟨w.heap.size, 0, none⟩) (by show w.heap.size < gq; omega)).trans HX2.out.1
        have hx2 := (hM.out.below.cell (p := ⟨w.heap.size, 1, none⟩) (by show w.heap.size < gq; omega)).trans HX2.out.2
        have hWq := hM.out.big
        have hc5 := (hM.out.below.cell (p := ⟨w.heap.size + 1, 0, none⟩) (by show w.heap.size + 1 < gq; omega)).trans HU2.out.cell
        have hc7 := hM.out.g7.cell
        have hl0 : w.heap.size < W.heap.size := by omega
        have hl1 : w.heap.size + 1 < W.heap.size := by omega
        have hl7 : gq + 1 < W.heap.size := by omega
        have hlq : gq < W.heap.size := by omega
        have hlo : go < W.heap.size := by omega
        by_cases hlt : K < M
        · have hlt' : (K : Int) < (M : Int) := by omega
          have hcK := (hM.out.below.cell (p := ⟨go, 0 + K, none⟩) (by show go < gq; omega)).trans (HO2.out.reads K (by rw [ascL_len]; exact hlt))
          rw [Nat.zero_add, ascL_at hlt] at hcK
          gi_wp2
          have hM8 := hM.out.alloc (.cells #[.int .i64 (K : Int)] 3)
          have hb8 := Boxed.new W 3 (.int .i64 (K : Int))
          have hs8 : (W.alloc (.cells #[.int .i64 (K : Int)] 3)).heap.size = W.heap.size + 1 := by simp
          have hB8 := on_alloc W (.cells #[.int .i64 (K : Int)] 3)
          obtain ⟨W8, hW8⟩ : ∃ W8, W.alloc (.cells #[.int .i64 (K : Int)] 3) = W8 := ⟨_, rfl⟩
          rw [hW8] at hM8 hb8 hs8 hB8 ⊢
          clear hW8 hcK hx1 hx2 hc5 hc7
          obtain ⟨B8, hB8'⟩ : ∃ B8, W.heap.size = B8 := ⟨_, rfl⟩
          rw [hB8'] at hb8 hs8 hl0 hl1 hl7 hlq hlo hWq ⊢
          have HWB := hid hB8'
          have HM8 := hid hM8
          have Hb8 := hid hb8
          have HB8 := hid hB8
          have hl88 : B8 < W8.heap.size := hb8.lt
          have HS8 := hid hs8
          have HBW8 := hid (show Below w.heap.size w W8 from bfrom HBW.out hB8)
          have hx1 := (hM8.below.cell (p := ⟨w.heap.size, 0, none⟩) (by show w.heap.size < gq; omega)).trans HX2.out.1
          have hx2 := (hM8.below.cell (p := ⟨w.heap.size, 1, none⟩) (by show w.heap.size < gq; omega)).trans HX2.out.2
          have hc5 := (hM8.below.cell (p := ⟨w.heap.size + 1, 0, none⟩) (by show w.heap.size + 1 < gq; omega)).trans HU2.out.cell
          have hc7 := hM8.g7.cell
          have hfq := hM8.free K
          obtain ⟨vq, hcq⟩ := hM8.any hlt
          have hc8 := hb8.cell
          clear hM8 hb8 hB8 hs8 hB8'
          have hm0 : w.heap.size < W8.heap.size := by omega
          have hm1 : w.heap.size + 1 < W8.heap.size := by omega
          have hm7 : gq + 1 < W8.heap.size := by omega
          have hmq : gq < W8.heap.size := by omega
          refine region_wide ?_
          go_region
          have hM9 := HM8.out.make hlt HZI.out
          have hs9 : ((W8.setCell ⟨gq, K, none⟩ (.slice (some ⟨W8.heap.size, 0, none⟩) M M)).alloc (.cells ZI 2)).heap.size = W8.heap.size + 1 := by simp [World.setCell]
          have hb9 : Boxed ((W8.setCell ⟨gq, K, none⟩ (.slice (some ⟨W8.heap.size, 0, none⟩) M M)).alloc (.cells ZI 2)) B8 3 (.int .i64 (K : Int)) := ((Below.heap_alloc _ _ _ (by simp [World.setCell]; omega)).trans (heap_setCell_other W8 ⟨gq, K, none⟩ B8 _ (by show B8 ≠ gq; omega))).trans Hb8.out
          have hB9 : Below gq W8 ((W8.setCell ⟨gq, K, none⟩ (.slice (some ⟨W8.heap.size, 0, none⟩) M M)).alloc (.cells ZI 2)) := ((Below.refl gq W8).setCell (p := ⟨gq, K, none⟩) (Nat.le_refl _) _).alloc (by simp [World.setCell]; omega) _
          obtain ⟨W9, hW9⟩ : ∃ W9, ((W8.setCell ⟨gq, K, none⟩ (.slice (some ⟨W8.heap.size, 0, none⟩) M M)).alloc (.cells ZI 2)) = W9 := ⟨_, rfl⟩
          rw [hW9] at hM9 hs9 hb9 hB9 ⊢
          clear hW9 hx1 hx2 hc5 hc7 hc8 hfq hcq
          have hM9 := hM9.same (W' := W9.drew) rfl (hM9.below.drew)
          have hb9 : Boxed W9.drew B8 3 (.int .i64 (K : Int)) := hb9
          have hB9 := hB9.drew
          have hs9 : W9.drew.heap.size = W8.heap.size + 1 := hs9
          obtain ⟨W10, hW10⟩ : ∃ W10, W9.drew = W10 := ⟨_, rfl⟩
          rw [hW10] at hM9 hb9 hB9 hs9 ⊢
          clear hW10
          obtain ⟨gr, hgr⟩ : ∃ gr, W8.heap.size = gr := ⟨_, rfl⟩
          rw [hgr] at hM9 hs9 hl88 hm0 hm1 hm7 hmq ⊢
          have HGR := hid hgr
          have HM10 := hid hM9
          have Hb10 := hid hb9
          have HB10 := hid hB9
          have HS10 := hid hs9
          have hc7 := hM9.g7.cell
          have hc8 := hb9.cell
          have hcq := hM9.out (i := K) (by omega)
          rw [show updN gf K gr K = gr from by simp [updN]] at hcq
          have hcr := hM9.cell (i := K) (j := K) (by omega) hlt
          rw [show updN gf K gr K = gr from by simp [updN], if_pos rfl] at hcr
          have hfr := (hM9.row K (by omega)).2.free K
          rw [show updN gf K gr K = gr from by simp [updN]] at hfr
          have hn7 : gq + 1 < W10.heap.size := by omega
          have hnq : gq < W10.heap.size := by omega
          have hn8 : B8 < W10.heap.size := by omega
          have hnr : gr < W10.heap.size := by omega
          clear hgr hM9 hb9 hB9 hs9
          gi_wp2
          refine region_wide ?_
          go_region
          have hM13 := (HM10.out.put (i := K) (j := K) (by omega) hlt 3)
          rw [show updN gf K gr K = gr from by simp [updN]] at hM13
          have hM13 := hM13.same (W' := (W10.setCell ⟨gr, K, none⟩ (.int .i64 3)).drew) rfl hM13.below.drew
          have hb13 : Boxed (W10.setCell ⟨gr, K, none⟩ (.int .i64 3)).drew B8 3 (.int .i64 (K : Int)) := (heap_setCell_other W10 ⟨gr, K, none⟩ B8 _ (by show B8 ≠ gr; omega)).trans Hb10.out
          have hs13 : (W10.setCell ⟨gr, K, none⟩ (.int .i64 3)).drew.heap.size = gr + 1 := by rw [← HS10.out]; simp [World.setCell]
          obtain ⟨W13, hW13⟩ : ∃ W13, (W10.setCell ⟨gr, K, none⟩ (.int .i64 3)).drew = W13 := ⟨_, rfl⟩
          rw [hW13] at hM13 hb13 hs13 ⊢
          have HBW13 := hid (show Below w.heap.size w W13 from HB2.out.trans (hM13.below.mono (by omega)))
          have HM13 := hid hM13
          have Hb13 := hid hb13
          have HS13 := hid hs13
          have hx1 := (hM13.below.cell (p := ⟨w.heap.size, 0, none⟩) (by show w.heap.size < gq; omega)).trans HX2.out.1
          have hx2 := (hM13.below.cell (p := ⟨w.heap.size, 1, none⟩) (by show w.heap.size < gq; omega)).trans HX2.out.2
          have hp0 : w.heap.size < W13.heap.size := by omega
          clear hW13 hM13 hb13 hs13 hc7 hc8 hcq hcr hfr hnq hnr hn7 hn8
          have hbG : ((W13.alloc (.cells #[.int .i64 N, .slice (some ⟨b, off, none⟩) n c] 30)).alloc (.cells #[.int .i64 ((K : Int) + 1)] 2)).cell? ⟨W13.heap.size, 1, none⟩ = some (.slice (some ⟨b, off, none⟩) n c) := ((Box.new W13 N (some ⟨b, off, none⟩) n c 30).on (on_alloc _ (.cells #[.int .i64 ((K : Int) + 1)] 2))).2
          have hbV : ((W13.alloc (.cells #[.int .i64 N, .slice (some ⟨b, off, none⟩) n c] 30)).alloc (.cells #[.int .i64 ((K : Int) + 1)] 2)).cell? ⟨W13.heap.size + 1, 0, none⟩ = some (.int .i64 ((K : Int) + 1)) := by
            have h := (Boxed.new (W13.alloc (.cells #[.int .i64 N, .slice (some ⟨b, off, none⟩) n c] 30)) 2 (.int .i64 ((K : Int) + 1))).cell
            simpa only [World.size_alloc] using h
          have HbG := hid hbG
          have HbV := hid hbV
          clear hbG hbV
          have HM14 := hid ((HM13.out.alloc (.cells #[.int .i64 N, .slice (some ⟨b, off, none⟩) n c] 30)).alloc (.cells #[.int .i64 ((K : Int) + 1)] 2))
          have Hb14 := hid ((Hb13.out.alloc (.cells #[.int .i64 N, .slice (some ⟨b, off, none⟩) n c] 30)).alloc (.cells #[.int .i64 ((K : Int) + 1)] 2))
          have HBr := hid (bfrom (bfrom HBW13.out (on_alloc W13 (.cells #[.int .i64 N, .slice (some ⟨b, off, none⟩) n c] 30))) (on_alloc _ (.cells #[.int .i64 ((K : Int) + 1)] 2)))
          gi_wp2_with (refine ⟨trivial, ?_⟩; gi_at_call 94; refine (callsIn_wide.2 (iAround_any _ _ _ _ _ _)).mono ?_; rintro e w' ⟨rfl, rfl⟩)
          have hEI := endsIn_of G.out
          have EI := hid hEI
          clear hEI
          refine wpIn_rangeFunc_ownG (n := 6) rfl (by omega) (gf := 138) (lb := #[.pointer (some ⟨W13.heap.size, 0, none⟩), .pointer (some ⟨W13.heap.size + 1, 0, none⟩)]) rfl trivial (enters_of Try.func138 (by kernel_rfl) rfl)
            (aroundS_stops 5 (by omega) W13.heap.size (W13.heap.size + 1) gq b off n c ((K : Int) + 1) es Hn.out hn30 (by omega) _ (by simp; have := HS13.out; omega) HbG.out HbV.out (by simp <;> omega) (by simp <;> omega) (Hr.out.on HBr.out)) kpB_t (kpB_b (by simp; have := HS13.out; omega) (by simp)) (Below.refl _ _) (fun _ => rfl)
            (fun (pre : List (ArS es ((K : Int) + 1))) W' => FM w2 W' gq M (K + 1) Ds (updN gf K gr) (fun k l => if k = K then (if l = K then 3 else -((((pre.map fun z => z.1.1).filter fun e => othE es ((K : Int) + 1) e == (l : Int) + 1).length : Nat) : Int)) else matT es k l) ∧ Boxed W' B8 3 (.int .i64 (K : Int)) ∧ W13.heap.size + 2 ≤ W'.heap.size)
            (fun _ _ _ => False)
            ?own
            (fun _ _ _ _ _ hs _ _ => hs)
            ⟨HM14.out.ext fun k l hk hl => ?e0, Hb14.out, by simp⟩
            (fun z => { tmps := #[.agg #[.int .i64 (N : Int), .slice (some ⟨b, off, none⟩) n c], .slice (some ⟨rb, ro, none⟩) 1 rc, .pointer (some ⟨w.heap.size, 0, none⟩), undef, .int .i64 0, .pointer (some ⟨w.heap.size + 1, 0, none⟩), u6, .pointer (some ⟨gq + 1, 0, none⟩), .pointer (some ⟨B8, 0, none⟩), .int .i64 ((K : Int) + 1), undef, .int .i64 z.1.2, undef, undef, .pointer (some ⟨w.heap.size, 0, none⟩), .int .i64 (N : Int), .int .i64 (N : Int), .bool false, u18, u19, u20, u21, u22, u23, u24, u25, u26, u27, .slice (some ⟨go, 0, none⟩) M cap, .int .i64 (M : Int), .slice (some ⟨gq, 0, none⟩) M M, .slice (some ⟨go, 0, none⟩) M cap, .int .i64 (M : Int), .int .i64 (K : Int), .bool true, .int .i64 (K : Int), .pointer (some ⟨go, K, none⟩), .int .i64 ((K : Int) + 1), .slice (some ⟨gq, 0, none⟩) M M, .int .i64 (K : Int), .slice (some ⟨go, 0, none⟩) M cap, .int .i64 (M : Int), .slice (some ⟨gr, 0, none⟩) M M, .pointer (some ⟨gq, K, none⟩), .slice (some ⟨gq, 0, none⟩) M M, .int .i64 (K : Int), .pointer (some ⟨gq, K, none⟩), .slice (some ⟨gr, 0, none⟩) M M, .int .i64 (K : Int), .pointer (some ⟨gr, K, none⟩), .agg #[.int .i64 (N : Int), .slice (some ⟨b, off, none⟩) n c], .int .i64 ((K : Int) + 1), .func (.func 138) #[] #[.pointer (some ⟨W13.heap.size, 0, none⟩), .pointer (some ⟨W13.heap.size + 1, 0, none⟩)], .int .i64 (z.1.1 : Int), .int .i64 z.1.2, undef, undef, undef, undef, undef, undef, undef, undef, undef, undef, undef, undef, undef, undef, undef, undef, x71, undef, undef], defers := [] }) ?assign ?body ?done ?stop
          case e0 =>
            by_cases e1 : k = K
            · subst e1
              by_cases e2 : l = k
              · subst e2; simp
              · rw [if_neg (fun h => e2 h.2), if_pos rfl, if_pos rfl, if_neg e2]
                simp
            · rw [if_neg (fun h => e1 h.1), if_neg e1, if_neg e1]
          case own =>
            rintro pre A B row ⟨h1, h2, h4⟩ hg hrow
            refine ⟨h1.grown hg (fun r e => ?_), h2.kept hg (fun e => ?_), Nat.le_trans h4 hg.size⟩
            · obtain ⟨k1, k2⟩ := hrow r e
              simp only [World.size_alloc] at k1
              have h13 := HS13.out
              refine ⟨by omega, k2, fun hin => ?_⟩
              have hlt2 := (Array.getElem?_eq_some_iff.1 (hM.out.col r hin).1).1
              have := HWB.out
              omega
            · exact cells_ne h2 (hrow _ e.symm).2 rfl
          case assign =>
            intro l' z W' K' hK'
            gi_wp2
            exact hK'
          case body =>
            rintro l' pre z W' ⟨h1, h2, h4⟩ hlt3
            obtain ⟨hz1e, hz2e, hz3e⟩ := z.2
            obtain ⟨e, he⟩ : ∃ e, z.1.1 = e := ⟨_, rfl⟩
            rw [he] at hz1e hz2e hz3e ⊢
            have hin := oth_in EI.out hz1e hz2e
            obtain ⟨Z, hZ⟩ : ∃ Z : Nat, othE es ((K : Int) + 1) e = Z := ⟨_, (Int.toNat_of_nonneg hin.1).symm⟩
            rw [hz3e, hZ]
            have hZM : Z ≤ M := by have := HM.out; omega
            have hZK : Z ≠ K + 1 := fun h => by
              have h5 := isG_ne G.out hz1e
              unfold onE at hz2e
              unfold othE at hZ
              rw [Bool.or_eq_true, beq_iff_eq, beq_iff_eq] at hz2e
              omega
            have HZ := hid hZ
            obtain ⟨P, hP⟩ : ∃ P : List Nat, (pre.map fun z => z.1.1) = P := ⟨_, rfl⟩
            have hPl : P.length ≤ 30 := by
              rw [← hP, List.length_map]
              have h5 := arU_len es ((K : Int) + 1) es.length
              have h6 := Hn.out
              unfold arF at hlt3
              omega
            have hPz : ((pre ++ [z]).map fun z => z.1.1) = P ++ [e] := by rw [List.map_append, List.map_singleton, he, hP]
            rw [hP] at h1
            have HPz := hid hPz
            have H1 := hid h1
            have H2 := hid h2
            have HOw := hid (HO2.out.below h1.below hgo1)
            have hc5 := (h1.below.cell (p := ⟨w.heap.size + 1, 0, none⟩) (by show w.heap.size + 1 < gq; omega)).trans HU2.out.cell
            have hW5 : w.heap.size + 1 < W'.heap.size := by have := HS13.out; omega
            clear hz1e hz2e hz3e he hin hZ hP hPz h1 h2 hx1 hx2
            by_cases hZ0 : Z = 0
            · subst hZ0
              gi_wp2_with (refine ⟨trivial, ?_⟩; gi_at_call 100; refine (callsIn_wide.2 (binS_any go cap M 0 _ hM1 (by omega) HOw.out (Nat.zero_le _))).mono ?_; rintro e' w' ⟨rfl, rfl⟩)
              refine ⟨⟨Nat.le_refl _, fun k o _ hk _ => hk⟩, ⟨Below.refl _ _, rfl⟩, ?_, H2.out, h4⟩
              refine H1.out.ext fun k l _ _ => ?_
              rw [HPz.out, List.filter_append, List.filter_cons_of_neg (by rw [HZ.out, beq_iff_eq]; omega), List.filter_nil, List.append_nil]
            · obtain ⟨J, rfl⟩ : ∃ J, Z = J + 1 := ⟨Z - 1, by omega⟩
              have hJM : J < M := by omega
              have hJM' : (J : Int) < (M : Int) := by omega
              have hJK : J ≠ K := by omega
              have hc7 := H1.out.g7.cell
              have hc8 := H2.out.cell
              have hcq := H1.out.out (i := K) (by omega)
              rw [show updN gf K gr K = gr from by simp [updN]] at hcq
              have hcr := H1.out.cell (i := K) (j := J) (by omega) hJM
              rw [show updN gf K gr K = gr from by simp [updN], if_pos rfl, if_neg hJK] at hcr
              obtain ⟨q, hq⟩ : ∃ q, (P.filter fun e => othE es ((K : Int) + 1) e == (J : Int) + 1).length = q := ⟨_, rfl⟩
              have hq30 : q ≤ 30 := by rw [← hq]; exact Nat.le_trans (List.length_filter_le _ _) hPl
              rw [hq] at hcr
              have HQ := hid hq
              have hfr := (H1.out.row K (by omega)).2.free J
              rw [show updN gf K gr K = gr from by simp [updN]] at hfr
              have e1 : IntKind.i64.wrap (-(q : Int) - 1) = -(q : Int) - 1 := IntWalk.i64_in _ (by omega)
              have hgr2 : gq + 2 ≤ gr := by have h5 := (H1.out.row K (by omega)).1; rwa [show updN gf K gr K = gr from by simp [updN]] at h5
              have hk7 : gq + 1 < W'.heap.size := by have := HS13.out; omega
              have hkq : gq < W'.heap.size := by omega
              have hk8 : B8 < W'.heap.size := by have := HS13.out; omega
              have hkr : gr < W'.heap.size := by have := HS13.out; omega
              have hJ1 : (((J + 1 - 1 : Nat)) : Int) = (J : Int) := by omega
              clear hq
              gi_wp2_with (refine ⟨trivial, ?_⟩; gi_at_call 100; refine (callsIn_wide.2 (binS_any go cap M (J + 1) _ hM1 (by omega) HOw.out hZM)).mono ?_; rw [hJ1, decide_eq_true (by omega)]; rintro e' w' ⟨rfl, rfl⟩)
              refine ⟨(KeepsOthers.setCell W' _ _).from _, ⟨(Below.refl gq W').setCell (p := ⟨gr, J, none⟩) (by show gq ≤ gr; omega) _, heap_setCell_other W' ⟨gr, J, none⟩ (W13.heap.size + 1) _ (by show W13.heap.size + 1 ≠ gr; have := HS13.out; omega)⟩, ?_, (heap_setCell_other W' ⟨gr, J, none⟩ B8 _ (by show B8 ≠ gr; omega)).trans H2.out, by simpa [World.setCell] using h4⟩
              have hp := H1.out.put (i := K) (j := J) (by omega) hJM (-(q : Int) - 1)
              rw [show updN gf K gr K = gr from by simp [updN]] at hp
              refine hp.ext fun k l _ _ => ?_
              rw [HPz.out]
              by_cases e2 : k = K ∧ l = J
              · obtain ⟨rfl, rfl⟩ := e2
                rw [if_pos ⟨rfl, rfl⟩, if_pos rfl, if_neg hJK, List.filter_append, List.filter_cons_of_pos (by rw [HZ.out, beq_iff_eq]; omega), List.filter_nil, List.length_append, HQ.out]
                simp
                omega
              · rw [if_neg e2]
                by_cases e3 : k = K
                · subst e3
                  rw [if_pos rfl, if_pos rfl]
                  by_cases e4 : l = k
                  · rw [if_pos e4, if_pos e4]
                  · rw [if_neg e4, if_neg e4, List.filter_append, List.filter_cons_of_neg (by rw [HZ.out, beq_iff_eq]; omega), List.filter_nil, List.append_nil]
                · rw [if_neg e3, if_neg e3]
          case done =>
            rintro D' ys W' hDz hys ⟨h1, h2, h4⟩ hK'
            have hyl : (ys.map fun z => z.1.1) = onL es ((K : Int) + 1) := by
              have h := congrArg (List.map Prod.fst) hys
              rw [List.map_map, arF_onL] at h
              exact h
            rw [hyl] at h1
            simp only [World.size_alloc] at hDz
            have hDq : gq + 2 ≤ D' := by have := HS13.out; omega
            have HF := hid ((h1.more hK' hDq).ext (Mt' := matT es) fun k l _ _ => by
              by_cases e1 : k = K
              · subst e1
                rw [if_pos rfl]
                unfold matT joinT
                rfl
              · rw [if_neg e1])
            have HDD := hid (show (D' :: Ds).Nodup from List.nodup_cons.2 ⟨fun hin => by
              have h5 := (Array.getElem?_eq_some_iff.1 (hM.out.col D' hin).1).1
              have := HWB.out
              have := HS13.out
              omega, hD.out⟩)
            gi_wp2
            refine ⟨⟨K + 1, D' :: Ds, updN gf K gr, _, _, _, _, _, _, _, _, _, _, _, _, _, _, _, _, _, _, _, _, _, _, rfl, by omega, HF, HDD⟩, ?_⟩
            show M - ((K : Int) + 1).toNat < M - ((K : Int)).toNat
            omega
          case stop =>
            rintro D' c' pre W' _ _ h _
            exact h.elim
        · have hKe : K = M := by omega
          rw [hKe] at hM
          have HKe := hid hKe
          have hnlt : ¬ ((K : Int) < (M : Int)) := by omega
          clear hKe hlt
          have hon : ∀ v : Nat, v < N → (onL es (v : Int)).length = 3 := fun v hv => by
            obtain ⟨x, y, z, h, _⟩ := onL_three G.out (v := (v : Int)) (by omega)
            rw [h]
            rfl
          have HTi := hid (show TInv M 0 1 (matT es) by
            have h := matT_inv (N := N) (es := es) (fun v hv => by rw [hon v hv]; exact Nat.le_refl _)
            rwa [show N - 1 = M by have := HM.out; omega] at h)
          clear hon
          have HMat := hid (hM.out.mat (B := gq) (Nat.le_refl _))
          gi_wp2_with (refine ⟨trivial, ?_⟩; gi_at_call 101; refine (callsIn_wide.2 (iDetK_any gq M gq M gf (fun _ => M) (matT es) _ hM19 (Nat.le_refl _) (by omega) HMat.out HTi.out)).mono ?_; rw [HD.out]; rintro e' w9 ⟨rfl, hk9⟩)
          have hcol : ∀ D', D' ∈ Ds → w9.heap[D']? = some (.deferred (some [])) := fun D' hin => by
            obtain ⟨h5, h6⟩ := hM.out.col D' hin
            refine (hk9.same D' (fun j hj e => ?_) (Array.getElem?_eq_some_iff.1 h5).1).trans h5
            obtain ⟨_, cur, hcur, _⟩ := hM.out.row j hj
            rw [← e, h5] at hcur
            cases Option.some.inj hcur
          have HB9 := hid (show Below gq W w9 from ⟨hk9.os, hk9.tape, hk9.output, hk9.size, fun i hi => hk9.same i (fun j hj e => by have := (hM.out.row j hj).1; omega) (by omega)⟩)
          refine leaves_colls (fun w' => results_tmp rfl _ _ _) Ds w9 hD.out hcol (fun w' a1 a2 a3 a4 a5 => ?_)
          exact ⟨rfl, HB2.out.trans ((hM.out.below.trans (HB9.out.trans ⟨a1, a2, a3, by rw [a4]; exact Nat.le_refl _, fun k hk => a5 k (fun hin => by have := (hM.out.col k hin).2; omega)⟩)).mono (by omega))⟩

end Go.Proofs.Ytbimllpfbgjajaa
