/- The girth in the program. -/
import Derived.Test.YtnimlipogphhmaaGirB
import Derived.Test.YtnimlipogphhmaaHasEq
import Derived.Test.YtnimlipogphhmaaDist
import Derived.Test.YtnimlipogphhmaaImplG
import Derived.Deep.RegionHeld3
import Derived.Deep.RegionWith
import Derived.Deep.DeepCutAuto
namespace Go.Proofs.Ytnimlipogphhmaa
open Go.RowKit

attribute [local go_sem] Oper.semAt_some

theorem two_no {es : List (Int × Int)} (h : ¬ twoEq es) {i j : Nat} (hi : i < es.length) (hj : j < es.length) (hij : i ≠ j) : ¬ (eA es i = eA es j ∧ eB es i = eB es j) := fun ⟨h1, h2⟩ => by
  rcases Nat.lt_or_ge i j with h3 | h3
  · exact h ⟨i, j, h3, hj, h1, h2⟩
  · exact h ⟨j, i, by omega, hi, h1.symm, h2.symm⟩

set_option maxRecDepth 100000 in
set_option maxHeartbeats 16000000 in
theorem iGirth_yes (N b off n c : Nat) (es : List (Int × Int)) (w : World) (hn : es.length = n) (hr : ReadsE w b off es) (g : IsG N es) :
    Calls Try.prog 10 #[.agg #[.int .i64 N, .slice (some ⟨b, off, none⟩) n c]] w fun e w' => e = .returned (.tuple #[.int .i64 (mG N (dG N es) n), .int .i64 0]) ∧ Below w.heap.size w w' := by
  have hN20 : N ≤ 20 := by have := g.1.1.2.1; omega
  have hN2 : 2 ≤ N := by have := g.1.1.1; omega
  have hn30 : n ≤ 30 := by have := isG_len g; omega
  have hbw0 := reads_lt hr (by have := g.1.1.2.2.2; omega)
  have Hn := hid hn
  have Hr := hid hr
  have G := hid g
  obtain ⟨R, hR⟩ : ∃ R, mG N (dG N es) n = R := ⟨_, rfl⟩
  rw [hR]
  have HR := hid hR
  clear hn hr g hR
  go_enter Try.func10, Try.ntmps10
  go_wp2_with fail
  refine (iIsGraph_any _ _ _ _ es _ (by omega) Hn.out (.inr ⟨b, off, rfl, Hr.out.on (on_alloc _ _)⟩)).mono ?_
  rw [decide_eq_true G.out]
  rintro e w2 ⟨rfl, hb2⟩
  have HX2 := hid ((Box.new w N (some ⟨b, off, none⟩) n c 30).on hb2)
  have HB2 := hid (bfrom (on_alloc w (.cells #[.int .i64 (N : Int), .slice (some ⟨b, off, none⟩) n c] 30)) hb2)
  have hx2 := HX2.out.1
  have hy2 := HX2.out.2
  have hz2 := HX2.out.lt
  clear hb2
  go_wp2_with fail
  refine (iHasEq_any b off n c es _ Hn.out (by omega) (Hr.out.on HB2.out) (by have := HB2.out.size; omega) (fun i hi => by
    have hok := G.out.1.2 i hi
    unfold okEdge at hok
    exact ⟨WalkArith.wf_i64 (by omega), WalkArith.wf_i64 (by omega)⟩)).mono ?_
  rintro e w3 ⟨⟨q, rfl, hq⟩, hb3⟩
  have HX3 := hid (HX2.out.on hb3)
  have HB3 := hid (bfrom HB2.out hb3)
  have hx3 := HX3.out.1
  have hy3 := HX3.out.2
  have hz3 := HX3.out.lt
  have Hq := hid hq
  clear hb3 hx2 hy2 hz2 hq
  cases q
  · have hno : ¬ twoEq es := fun h => by have := Hq.out.2 h; cases this
    have HNo := hid hno
    have HRp := hid (show pG N (dG N es) n = R by rw [← HR.out, ← Hn.out]; exact gir_diff G.out)
    clear hno
    go_wp2
    go_loopw [4, 19] (fun u v wr => ∃ k : Nat, k ≤ n ∧ u = .int .i64 (pG N (dG N es) k) ∧ v = .int .i64 k ∧ Hid (1 ≤ pG N (dG N es) k ∧ pG N (dG N es) k ≤ N) ∧ Hid (Box wr w.heap.size N (some ⟨b, off, none⟩) n c) ∧ Hid (Below w.heap.size w wr)) (fun _ v _ => n - (intOf v).toNat)
    case atStart => exact ⟨0, Nat.zero_le _, rfl, rfl, hid ⟨by show (1 : Int) ≤ (N : Int); omega, Int.le_refl _⟩, HX3, HB3⟩
    case round =>
      obtain ⟨k, hk, rfl, rfl, hM, hX, hB⟩ := hrel
      clear hx3 hy3 hz3
      have hx := hX.out.1
      have hy := hX.out.2
      have hz := hX.out.lt
      obtain ⟨m, hm⟩ : ∃ m, pG N (dG N es) k = m := ⟨_, rfl⟩
      rw [hm] at hM
      rw [hm]
      have HMm := hid hm
      clear hm
      obtain ⟨wo, rfl⟩ : ∃ wo : World, wo = wr := ⟨_, rfl⟩
      by_cases hlt : k < n
      · have hlt' : (k : Int) < (n : Int) := by omega
        have hkl : k < es.length := by rw [Hn.out]; exact hlt
        have hok := G.out.1.2 k hkl
        unfold okEdge at hok
        obtain ⟨X, hX'⟩ : ∃ X : Nat, eA es k = X := ⟨_, (Int.toNat_of_nonneg hok.1).symm⟩
        obtain ⟨Y, hY'⟩ : ∃ Y : Nat, eB es k = Y := ⟨_, (Int.toNat_of_nonneg hok.2.2.1).symm⟩
        have hc1 := (Hr.out.on hB.out k hkl).1
        have hc2 := (Hr.out.on hB.out k hkl).2
        rw [hX'] at hc1
        rw [hY'] at hc2
        have hbw := World.block_lt_of_cell? wo _ hc1
        dsimp only at hbw
        have hXN : X < N := by omega
        have hYN : Y < N := by omega
        have hYN' : (Y : Int) < (N : Int) := by omega
        obtain ⟨D, hD⟩ : ∃ D, dG N es k = D := ⟨_, rfl⟩
        have hkp : ∀ e, e < es.length → (!(decide (eA es e = (X : Int)) && decide (eB es e = (Y : Int)))) = ((e : Int) != (k : Int)) := fun e he => by
          by_cases h1 : e = k
          · subst h1
            rw [hX', hY']
            simp
          · have h2 := two_no HNo.out he hkl h1
            rw [hX', hY'] at h2
            rw [show ((e : Int) != (k : Int)) = true by simp only [bne_iff_ne, ne_eq]; omega]
            by_cases h3 : eA es e = (X : Int)
            · rw [decide_eq_true h3, decide_eq_false (fun h4 => h2 ⟨h3, h4⟩)]; rfl
            · rw [decide_eq_false h3]; rfl
        have hDF : eI (farF N es (fun e => !(decide (eA es e = (X : Int)) && decide (eB es e = (Y : Int)))) (X : Int)) Y = D := by
          rw [farF_congr hkp, ← hD]
          unfold dG
          rw [hX', hY']
          rfl
        have hDb := (dG_or G.out hkl)
        rw [hD] at hDb
        have HDb := hid hDb
        have HDF := hid hDF
        have HD := hid hD
        have HFl := hid (farF_len (keep := fun e => !(decide (eA es e = (X : Int)) && decide (eB es e = (Y : Int)))) (endsIn_of G.out) (a := (X : Int)) (by omega))
        clear hok hX' hY' hD hDF hDb hkp
        go_upto_region 9 with fail
        have hXe := hX.out.on (on_alloc wo (.cells #[.int .i64 (X : Int), .int .i64 (Y : Int)] 56))
        have he0 : (wo.alloc (.cells #[.int .i64 (X : Int), .int .i64 (Y : Int)] 56)).heap[wo.heap.size]? = some (.cells #[.int .i64 (X : Int), .int .i64 (Y : Int)] 56 (0, 0)) := World.alloc_heap_new wo _
        have hBe := on_alloc wo (.cells #[.int .i64 (X : Int), .int .i64 (Y : Int)] 56)
        have hse : (wo.alloc (.cells #[.int .i64 (X : Int), .int .i64 (Y : Int)] 56)).heap.size = wo.heap.size + 1 := by simp
        obtain ⟨we, hwe⟩ : ∃ we, wo.alloc (.cells #[.int .i64 (X : Int), .int .i64 (Y : Int)] 56) = we := ⟨_, rfl⟩
        rw [hwe] at hXe he0 hBe hse ⊢
        clear hwe
        obtain ⟨Be, hBe'⟩ : ∃ Be, wo.heap.size = Be := ⟨_, rfl⟩
        rw [hBe'] at he0 hse hbw ⊢
        have HXe := hid hXe
        have He0 := hid he0
        have HBo := hid (bfrom hB.out hBe)
        have hxe := hXe.1
        have hye := hXe.2
        have hze := hXe.lt
        have he1 := (cell_of_row we Be 0 _ _ _ he0).trans (show _ = some (Value.int .i64 (X : Int)) from rfl)
        have he2 := (cell_of_row we Be 1 _ _ _ he0).trans (show _ = some (Value.int .i64 (Y : Int)) from rfl)
        have hle : Be < we.heap.size := by omega
        clear hx hy hz hc1 hc2 hXe he0 hBe hBe'
        go_cut [7] (fun z wx => z = .int .i64 D ∧ Hid (Below we.heap.size we wx))
        case first =>
          go_region_with (first
              | (go_at_call 33; refine (iDist_any N (X : Int) (X : Int) (Y : Int) b off n c es _ Hn.out hn30 ?_ ?_ (endsIn_of G.out) (by omega) (by omega) (fun e => !(decide (eA es e = (X : Int)) && decide (eB es e = (Y : Int)))) (fun _ _ => rfl)).mono ?_; (have h5 := HBo.out.size; first | omega | (simp only [drew_size]; omega)); (exact (Hr.out.on HBo.out).on (by have := Below.refl we.heap.size we; go_grown)); rintro e' wa ⟨ga, rfl, hga, hoa, hba⟩; have hBA : Below we.heap.size we wa := bfrom (by have := Below.refl we.heap.size we; go_grown) hba; obtain ⟨ha1, ha2⟩ := HXe.out.on hBA; have ha3 := ((bcells hBA).1 _ _ hle).trans he1; have ha4 := ((bcells hBA).1 _ _ hle).trans he2; have hra := hoa.reads Y (by rw [HFl.out]; exact hYN); rw [Nat.zero_add, HDF.out] at hra; have hla := hoa.lt))
          all_goals
            go_wp2_with fail
            go_meet
            exact ⟨rfl, hid (by first | exact hBA | exact bdn.mpr hBA)⟩
        case rest =>
        obtain ⟨rfl, hcb⟩ := hcut
        obtain ⟨w5, rfl⟩ : ∃ w5, w5 = wc := ⟨_, rfl⟩
        have HX5 := hid (HXe.out.on hcb.out)
        have HB5 := hid (bfrom HBo.out hcb.out)
        have hD20 : D + 1 ≤ 20 := by have := HDb.out; omega
        have hDm : -1 ≤ D := by have := HDb.out; omega
        have hMb := hM.out
        have hm2 : m ≤ 20 := by omega
        have e1 : IntKind.i64.wrap (D + 1) = D + 1 := IntWalk.i64_in _ (by omega)
        have hst : pG N (dG N es) (k + 1) = if D ≠ -1 then min m (D + 1) else m := by
          show (if dG N es k ≠ -1 then min (pG N (dG N es) k) (dG N es k + 1) else pG N (dG N es) k) = _
          rw [HD.out, HMm.out]
        have HSt := hid hst
        clear hcb hst hMb hxe hye hze he1 he2
        by_cases h0 : D = -1
        · have HS3 := hid (show pG N (dG N es) (k + 1) = m by rw [HSt.out, if_neg (fun h => h h0)])
          have h0' : (D != -1) = false := by simp [h0]
          have H0 := hid h0
          clear h0
          go_wp2
          go_roundw
          case rel => exact ⟨k + 1, by omega, (by rw [HS3.out] <;> first | rfl | (congr 1; omega)), by go_num, hid (by rw [HS3.out]; exact hM.out), HX5, HB5⟩
          case measure => simp [intOf]; omega
        · have h0' : (D != -1) = true := by simpa using h0
          have HS2 := hid (show pG N (dG N es) (k + 1) = min m (D + 1) by rw [HSt.out, if_pos h0])
          have H0 := hid h0
          clear h0
          by_cases hmd : D + 1 < m
          · have HS3 := hid (show pG N (dG N es) (k + 1) = D + 1 by have := HS2.out; omega)
            go_wp2
            go_roundw
            case rel => exact ⟨k + 1, by omega, (by rw [HS3.out] <;> first | rfl | (congr 1; omega)), by go_num, hid (by rw [HS3.out]; have := H0.out; have := HDb.out; omega), HX5, HB5⟩
            case measure => simp [intOf]; omega
          · have HS3 := hid (show pG N (dG N es) (k + 1) = m by have := HS2.out; omega)
            go_wp2
            go_roundw
            case rel => exact ⟨k + 1, by omega, (by rw [HS3.out] <;> first | rfl | (congr 1; omega)), by go_num, hid (by rw [HS3.out]; exact hM.out), HX5, HB5⟩
            case measure => simp [intOf]; omega
      · obtain rfl : k = n := by omega
        have hmR : m = R := by rw [← HMm.out]; exact HRp.out
        rw [hmR]
        go_wp2
        go_ret2
        exact ⟨rfl, hB.out⟩
  · have HRe := hid (show R = 2 by
      obtain ⟨i, j, h1, h2, h3, h4⟩ := Hq.out.1 rfl
      rw [← HR.out, ← Hn.out]
      exact gir_equal G.out (by omega) h2 (by omega) h3 h4)
    go_wp2
    go_ret2
    exact ⟨by rw [HRe.out]; rfl, HB3.out⟩

end Go.Proofs.Ytnimlipogphhmaa
