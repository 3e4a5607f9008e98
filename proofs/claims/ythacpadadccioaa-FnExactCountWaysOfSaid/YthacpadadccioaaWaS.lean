/- Ways of a length in the model: CountWaysOf. -/
import Derived.Test.YthacpadadccioaaWaC
import Derived.Test.YthacpadadccioaaSpecD
import Derived.Test.YthacpadadccioaaVertsT
import Derived.Test.YthacpadadccioaaLawsD
import Derived.BigRegion
import Derived.BigQuiet
namespace Go.Proofs.Ythacpadadccioaa
open Go.RowKit

theorem own_zerosW {ZC : Array Value} (w : World) (g n : Nat) (hZ : ZC = madeCells (Value.int .i64 0).cells (n * 1)) (hg : g = w.heap.size) (hn : n ≤ 30) : OwnI (w.alloc (.cells ZC 2)) g n (List.replicate n 0) := by
  subst hZ hg
  refine ⟨_, heap_alloc_new w _, by rw [size_madeCells, Nat.mul_one], by simp, by unfold maxLen; omega, fun i hi => ?_⟩
  have hi' : i < n := by simpa using hi
  rw [eI_lt (by simpa using hi')]
  simp [madeCells, hi', Value.cells, Nat.mod_one]

set_option maxRecDepth 100000 in
set_option maxHeartbeats 2000000 in
theorem sWays_code (s u v x q : Int) (p : Option Addr) (n c : Nat) (es : List (Int × Int)) (w : World) (hm : n ≤ 9223372036854775807) (hlen : es.length = n) (hr : SeesE w p es) (hV : vertsCode s es [u, v] = q) (hq : (q == 0) = false) :
    Calls Try.prog 16 #[.agg #[.int .i64 s, .slice p n c], .int .i64 u, .int .i64 v, .int .i64 x] w fun e' w' => e' = .returned (.tuple #[.int .i64 0, .int .i64 q]) ∧ Below w.heap.size w w' := by
  have Hl := hid hlen
  have Hr := hid hr
  have HV := hid hV
  have hq' : (q != 0) = true := by simpa using hq
  clear hlen hr hV
  go_enter Try.func16, Try.ntmps16
  go_wp2_with fail
  refine (sVerts_any _ _ _ _ _ _ 2 _ es [u, v] _ hm Hl.out ((Hr.out.alloc _).alloc _) rfl (by omega) (reads_two _ _ _ _ _ (by simp))).mono ?_
  rw [HV.out]
  rintro e' w2 ⟨rfl, hb2⟩
  have hB2 := bfrom (w := w) (by go_grown) hb2
  have HB2 := hid hB2
  clear hb2 hB2
  go_wp2
  go_ret2
  exact ⟨rfl, HB2.out⟩

set_option maxRecDepth 100000 in
set_option maxHeartbeats 2000000 in
theorem sWays_k (s u v x : Int) (p : Option Addr) (n c : Nat) (es : List (Int × Int)) (w : World) (hm : n ≤ 9223372036854775807) (hlen : es.length = n) (hr : SeesE w p es) (hV : vertsCode s es [u, v] = 0) (hx : x < 0 ∨ 12 < x) :
    Calls Try.prog 16 #[.agg #[.int .i64 s, .slice p n c], .int .i64 u, .int .i64 v, .int .i64 x] w fun e' w' => e' = .returned (.tuple #[.int .i64 0, .int .i64 2]) ∧ Below w.heap.size w w' := by
  have Hl := hid hlen
  have Hr := hid hr
  have HV := hid hV
  have HX := hid hx
  clear hlen hr hV hx
  go_enter Try.func16, Try.ntmps16
  go_wp2_with fail
  refine (sVerts_any _ _ _ _ _ _ 2 _ es [u, v] _ hm Hl.out ((Hr.out.alloc _).alloc _) rfl (by omega) (reads_two _ _ _ _ _ (by simp))).mono ?_
  rw [HV.out]
  rintro e' w2 ⟨rfl, hb2⟩
  have hB2 := bfrom (w := w) (by go_grown) hb2
  have HB2 := hid hB2
  clear hb2 hB2
  go_wp2_with (go_at_call 55; refine (sIn_no _ _ _ _ HX.out).mono ?_; rintro e' w' ⟨rfl, rfl⟩)
  go_ret2
  exact ⟨rfl, HB2.out⟩

set_option maxRecDepth 100000 in
set_option maxHeartbeats 8000000 in
theorem sWays_yes (N A B K b off n c : Nat) (es : List (Int × Int)) (w : World) (hlen : es.length = n) (hr : ReadsE w b off es) (g : IsG N es) (hA : A < N) (hB : B < N) (hK : K ≤ 12) :
    Calls Try.prog 16 #[.agg #[.int .i64 N, .slice (some ⟨b, off, none⟩) n c], .int .i64 A, .int .i64 B, .int .i64 K] w fun e' w' => e' = .returned (.tuple #[.int .i64 (eI (wayF N es A K) B), .int .i64 0]) ∧ Below w.heap.size w w' := by
  have hn30 : n ≤ 30 := by have := isG_len g; omega
  have hN20 : N ≤ 20 := by have := g.1.1.2.1; omega
  have hbl : b < w.heap.size := reads_lt hr (by have := g.1.1.2.2.2; have := g.1.1.1; omega)
  have Hn := hid hlen
  have Hr := hid hr
  have G := hid g
  have HV := hid (show vertsCode N es [(A : Int), (B : Int)] = 0 by rw [verts_two, if_pos g, if_pos ⟨by omega, by omega⟩])
  have HK := hid (show 0 ≤ (K : Int) ∧ (K : Int) ≤ 12 by omega)
  obtain ⟨j0, hj, hy0, hy1, hy2⟩ := info_parts infoInt
  have hmk0 : ∀ w', (Instr.makeSlice 44 (.int .i64 N) (.int .i64 N)).run Try.prog w' = .ok (.slice (some ⟨w'.heap.size, 0, none⟩) N N) (w'.alloc (.cells (madeCells (Value.int .i64 0).cells (N * 1)) 2)) := fun w' => by
    have h := run_makeSlice (P := Try.prog) w' 44 2 j0 (.int .i64 0) Try.underlying44 hj hy0 .i64 .i64 N N (by omega) (Int.le_refl _) (by rw [hy1]; omega) (by rw [hy2]; omega) (by omega)
    rw [hy1] at h
    simpa using h
  obtain ⟨ZC, hZC⟩ : ∃ ZC, ZC = madeCells (Value.int .i64 0).cells (N * 1) := ⟨_, rfl⟩
  have hmk : ∀ w', (Instr.makeSlice 44 (.int .i64 N) (.int .i64 N)).run Try.prog w' = .ok (.slice (some ⟨w'.heap.size, 0, none⟩) N N) (w'.alloc (.cells ZC 2)) := by rw [hZC]; exact hmk0
  have hZA : ZC[A]? = some (.int .i64 0) := by rw [hZC]; simp [madeCells, Value.cells, Nat.mod_one, hA]
  have hZs : ZC.size = N := by rw [hZC, size_madeCells, Nat.mul_one]
  have HZC := hid hZC
  have HZs := hid hZs
  obtain ⟨r, hR⟩ : ∃ r, eI (wayF N es A K) B = r := ⟨_, rfl⟩
  rw [hR]
  have HR := hid hR
  clear hlen hr g hj hmk0 hZC hK hZs hR
  go_enter Try.func16, Try.ntmps16
  go_wp2_with fail
  refine (sVerts_any _ _ _ _ _ _ 2 _ es [(A : Int), (B : Int)] _ (by omega) Hn.out (SeesE.on (.inr ⟨b, off, rfl, Hr.out⟩) (bfrom (on_alloc _ _) (on_alloc _ _))) rfl (by omega) (reads_two _ _ _ _ _ (by simp))).mono ?_
  rw [HV.out]
  rintro e' w2 ⟨rfl, hb2⟩
  have HB2 := hid (bfrom (w := w) (bfrom (on_alloc _ _) (on_alloc _ _)) hb2)
  have HX2 := hid (((Box.new w N (some ⟨b, off, none⟩) n c 30).on (on_alloc _ (.cells #[.int .i64 A, .int .i64 B] 2))).on hb2)
  have hx2 := HX2.out.1
  have hz2 := HX2.out.lt
  have hA' : (A : Int) < (N : Int) := by omega
  have hB0 : B < N := hB
  have hB' : (B : Int) < (N : Int) := by omega
  clear hB
  clear hb2
  go_wp2_with (go_at_call 55; refine (sIn_yes _ _ _ _ HK.out).mono ?_; rintro e' w' ⟨rfl, rfl⟩)
  obtain ⟨w3, hw3⟩ : ∃ w3, w3 = w2.alloc (.cells (ZC.setIfInBounds A (.int .i64 1)) 2) := ⟨_, rfl⟩
  rw [← hw3]
  have HB3 := hid (show Below w2.heap.size w2 w3 by rw [hw3]; exact on_alloc _ _)
  have HO3 := hid (show OwnI w3 w2.heap.size N (wayF N es A 0) by
    rw [hw3]
    refine ⟨_, heap_alloc_new w2 _, by rw [Array.size_setIfInBounds, HZs.out], by rw [wayF_len]; exact Nat.le_refl _, by unfold maxLen; omega, fun i hi => ?_⟩
    rw [wayF_len] at hi
    show _ = some (Value.int .i64 (eI ((List.replicate N 0).set A 1) i))
    rw [eI_set (by simpa using hA), Array.getElem?_setIfInBounds]
    by_cases h : A = i
    · subst h
      rw [if_pos rfl, if_pos (by rw [HZs.out]; exact hA), if_pos rfl]
    · rw [if_neg h, if_neg (fun e => h e.symm), HZC.out, eI_lt (by simpa using hi)]
      simp [madeCells, Value.cells, Nat.mod_one, hi])
  have hs2 := HB2.out.size
  clear hw3 hZA hx2 hz2
  go_loopw [3, 11] (fun u v wr => ∃ j g : Nat, j ≤ K ∧ u = .int .i64 ((K : Int) - (j : Int)) ∧ v = .slice (some ⟨g, 0, none⟩) N N ∧ Hid (w2.heap.size ≤ g) ∧ Hid (OwnI wr g N (wayF N es A j)) ∧ Hid (Below w2.heap.size w2 wr)) (fun u _ _ => (intOf u).toNat)
  case atStart => exact ⟨0, w2.heap.size, Nat.zero_le _, by simp, rfl, hid (Nat.le_refl _), HO3, HB3⟩
  case round =>
    obtain ⟨j, g, hj, rfl, rfl, hg, hO, hB⟩ := hrel
    clear HB3 HO3
    have hBs := hB.out.size
    have HXr := hid (HX2.out.on hB.out)
    have hxr := HXr.out.1
    have hyr := HXr.out.2
    have hzr := HXr.out.lt
    obtain ⟨wi, rfl⟩ : ∃ wi : World, wi = wr := ⟨_, rfl⟩
    by_cases hlt : j < K
    · have hlt' : (0 : Int) < (K : Int) - (j : Int) := by omega
      have hK40 : (K : Int) ≤ 12 := HK.out.2
      have hwz := HB2.out.size
      go_wp2
      obtain ⟨w4, hw4⟩ : ∃ w4, w4 = wi.alloc (.cells ZC 2) := ⟨_, rfl⟩
      rw [← hw4]
      have HB4 := hid (show Below wi.heap.size wi w4 by rw [hw4]; exact on_alloc _ _)
      obtain ⟨L, hL⟩ : ∃ L, wayF N es A j = L := ⟨_, rfl⟩
      rw [hL] at hO
      have HL := hid hL
      have HLl := hid (show L.length = N by rw [← hL, wayF_len])
      have HO4 := hid (show OwnI w4 wi.heap.size N (wayU N es L 0) by rw [hw4]; exact own_zerosW wi _ N HZC.out rfl (by omega))
      have hgl := hO.out.lt
      have hg0 := hg.out
      obtain ⟨g2, hg2⟩ : ∃ g2, wi.heap.size = g2 := ⟨_, rfl⟩
      rw [hg2] at HO4 HB4 ⊢
      rw [hg2] at hgl
      have hgg : ¬ g = g2 := by omega
      have hgg' : ¬ g2 = g := by omega
      have hg2w : w2.heap.size ≤ g2 := by omega
      have hg2z : w.heap.size < g2 := by omega
      have hbg2 : b < g2 := by omega
      have HG2 := hid hg2
      clear hw4 hL hxr hyr hzr hg2
      go_loopw [13] (fun u wr => ∃ k : Nat, k ≤ n ∧ u = .int .i64 k ∧ Hid (OwnI wr g2 N (wayU N es L k)) ∧ Hid (Below g2 wi wr)) (fun u _ => n - (intOf u).toNat)
      case atStart => exact ⟨0, Nat.zero_le _, rfl, HO4, HB4⟩
      case round =>
        obtain ⟨k, hk, rfl, hOk, hBk⟩ := hrel
        clear HO4 HB4
        have HXk := hid (show Box wr w.heap.size N (some ⟨b, off, none⟩) n c from ⟨(hBk.out.cell (p := ⟨w.heap.size, 0, none⟩) hg2z).trans HXr.out.1, (hBk.out.cell (p := ⟨w.heap.size, 1, none⟩) hg2z).trans HXr.out.2⟩)
        have hyk := HXk.out.2
        have hzk := HXk.out.lt
        obtain ⟨wk, rfl⟩ : ∃ wk : World, wk = wr := ⟨_, rfl⟩
        by_cases hlk : k < n
        · have hlk' : (k : Int) < (n : Int) := by omega
          have hke : k < es.length := by have := Hn.out; omega
          have hok := G.out.1.2 k hke
          have HRk := hid (((Hr.out.on HB2.out).on hB.out).below hBk.out hbg2)
          have hc1 := (HRk.out k hke).1
          have hc2 := (HRk.out k hke).2
          have hbk : b < wk.heap.size := by have := hBk.out.size; have := HG2.out; omega
          obtain ⟨X, hX⟩ : ∃ X : Nat, eA es k = X := ⟨_, (Int.toNat_of_nonneg hok.1).symm⟩
          obtain ⟨Y, hY⟩ : ∃ Y : Nat, eB es k = Y := ⟨_, (Int.toNat_of_nonneg hok.2.2.1).symm⟩
          have hXN : X < N := by have := hok.2.1; omega
          have hYN : Y < N := by have := hok.2.2.2.1; omega
          have hXN' : (X : Int) < (N : Int) := by omega
          have hYN' : (Y : Int) < (N : Int) := by omega
          have hXY : ¬ X = Y := fun e => hok.2.2.2.2 (by rw [hX, hY, e])
          have hYX : ¬ Y = X := fun e => hXY e.symm
          rw [hX] at hc1
          rw [hY] at hc2
          have hOL := (hO.out.below hBk.out (show g < g2 by omega))
          have hlx := hOL.reads X (by rw [HLl.out]; exact hXN)
          have hly := hOL.reads Y (by rw [HLl.out]; exact hYN)
          have hmx := hOk.out.reads X (by rw [wayU_len]; exact hXN)
          have hmy := hOk.out.reads Y (by rw [wayU_len]; exact hYN)
          have hfx := hOk.out.free X
          have hfy := hOk.out.free Y
          have hg2k := hOk.out.lt
          have hgk := hOL.lt
          have HST := hid (wayU_step (now := L) hX hY hXN hXY)
          rw [Nat.zero_add] at hlx hly hmx hmy
          obtain ⟨p1, hp1⟩ : ∃ p1, eI L X = p1 := ⟨_, rfl⟩
          obtain ⟨p2, hp2⟩ : ∃ p2, eI L Y = p2 := ⟨_, rfl⟩
          obtain ⟨q1, hq1⟩ : ∃ q1, eI (wayU N es L k) X = q1 := ⟨_, rfl⟩
          obtain ⟨q2, hq2⟩ : ∃ q2, eI (wayU N es L k) Y = q2 := ⟨_, rfl⟩
          rw [hp1] at hlx
          rw [hp2] at hly
          rw [hq1] at hmx
          rw [hq2] at hmy
          rw [hp1, hp2, hq1, hq2] at HST
          clear hok hX hY hOL hp1 hp2 hq1 hq2
          go_wp2
          go_quiet (fail)
          go_wp2
          go_region
          go_wp2
          go_region
          go_wp2
          go_roundw
          case rel =>
            refine ⟨k + 1, by omega, by go_num, hid ?_, hid ?_⟩
            · rw [HST.out]
              exact OwnI.keep (w' := World.drew _) (((OwnI.keep (w' := World.drewN wk _) hOk.out rfl).set (by rw [wayU_len]; exact hXN) _).set (by rw [List.length_set, wayU_len]; exact hYN) _) rfl
            · exact (((bdn.mpr hBk.out).setCell (p := ⟨g2, X, none⟩) (Nat.le_refl _) _).setCell (p := ⟨g2, Y, none⟩) (Nat.le_refl _) _).drew
          case measure => simp [intOf]; omega
        · have hkn := hid (show k = n by omega)
          go_wp2
          go_roundw
          case rel => exact ⟨j + 1, g2, by omega, by congr 1; push_cast; omega, rfl, hid hg2w, hid (by
            show OwnI wk g2 N (wayU N es (wayF N es A j) es.length)
            rw [HL.out, Hn.out, ← hkn.out]
            exact hOk.out), hid (hB.out.trans (hBk.out.mono hg2w))⟩
          case measure => simp [intOf]; omega
    · have hjK := hid (show j = K by omega)
      have hlt' : ¬ ((0 : Int) < (K : Int) - (j : Int)) := by omega
      have hcB := hO.out.reads B (by rw [wayF_len]; exact hB0)
      rw [Nat.zero_add] at hcB
      have hgz := hO.out.lt
      rw [hjK.out] at hcB
      rw [HR.out] at hcB
      go_wp2
      go_ret2
      exact ⟨rfl, bfrom HB2.out hB.out⟩

theorem sCountWaysOf_any (s : Int) (p : Option Addr) (n c : Nat) (es : List (Int × Int)) (u v x : Int) (w : World) (hm : n ≤ 1048576) (hl : es.length = n) (hr : SeesE w p es) :
    Calls Try.prog 16 #[.agg #[.int .i64 s, .slice p n c], .int .i64 u, .int .i64 v, .int .i64 x] w fun e' w' => e' = .returned (.tuple #[.int .i64 (fCountWaysOf s es u v x).1, .int .i64 (fCountWaysOf s es u v x).2]) ∧ Below w.heap.size w w' := by
  have hV := verts_two s es u v
  unfold fCountWaysOf
  by_cases g : IsG s es
  · rw [if_pos g] at hV ⊢
    by_cases hv : (0 ≤ u ∧ u < s) ∧ (0 ≤ v ∧ v < s)
    · rw [if_pos hv] at hV
      by_cases hx : 0 ≤ x ∧ x ≤ 12
      · rw [if_pos ⟨hv, hx⟩]
        obtain ⟨b, off, rfl, rd⟩ := isG_sees g hr
        obtain ⟨N, rfl⟩ : ∃ N : Nat, s = N := ⟨_, (Int.toNat_of_nonneg (by have := g.1.1.1; omega)).symm⟩
        obtain ⟨U, rfl⟩ : ∃ U : Nat, u = U := ⟨_, (Int.toNat_of_nonneg hv.1.1).symm⟩
        obtain ⟨V, rfl⟩ : ∃ V : Nat, v = V := ⟨_, (Int.toNat_of_nonneg hv.2.1).symm⟩
        obtain ⟨K, rfl⟩ : ∃ K : Nat, x = K := ⟨_, (Int.toNat_of_nonneg hx.1).symm⟩
        rw [Int.toNat_natCast, Int.toNat_natCast, Int.toNat_natCast, Int.toNat_natCast]
        exact sWays_yes N U V K b off n c es w hl rd g (by omega) (by omega) (by omega)
      · rw [if_neg (fun h => hx h.2)]
        exact sWays_k s u v x p n c es w (by omega) hl hr hV (by omega)
    · rw [if_neg hv] at hV
      rw [if_neg (fun h => hv h.1)]
      exact sWays_code s u v x 2 p n c es w (by omega) hl hr hV rfl
  · rw [if_neg g] at hV ⊢
    exact sWays_code s u v x 1 p n c es w (by omega) hl hr hV rfl

end Go.Proofs.Ythacpadadccioaa
