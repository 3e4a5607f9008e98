/- The girth in the model. -/
import Derived.Test.YtnimlipogphhmaaGirB
import Derived.Test.YtnimlipogphhmaaFarS
import Derived.Test.YtnimlipogphhmaaLawsF
import Derived.Deep.RegionHeld3
import Derived.Deep.RegionWith
import Derived.Deep.DeepCutAuto
namespace Go.Proofs.Ytnimlipogphhmaa
open Go.RowKit

attribute [local go_sem] Oper.semAt_some

theorem fresh_at {w : World} {B N cap : Nat} {q : Option Addr} {xs : List Int} (h : FreshI B w q N cap xs) (hN : 0 < N) : ∃ g, q = some ⟨g, 0, none⟩ ∧ B ≤ g ∧ OwnI w g cap xs := by
  rcases h.form with ⟨_, h, _⟩ | h
  · omega
  · exact h

set_option maxRecDepth 100000 in
set_option maxHeartbeats 16000000 in
theorem sGirth_any (N b off n c : Nat) (es : List (Int × Int)) (w : World) (hn : es.length = n) (hr : ReadsE w b off es) (g : IsG N es) :
    Calls Try.prog 29 #[.agg #[.int .i64 N, .slice (some ⟨b, off, none⟩) n c]] w fun e w' => e = .returned (.int .i64 (mG N (dG N es) n)) ∧ Below w.heap.size w w' := by
  have hN20 : N ≤ 20 := by have := g.1.1.2.1; omega
  have hN2 : 2 ≤ N := by have := g.1.1.1; omega
  have hn30 : n ≤ 30 := by have := isG_len g; omega
  have Hn := hid hn
  have Hr := hid hr
  have G := hid g
  have e0 : IntKind.i64.wrap ((N : Int) + 1) = (N : Int) + 1 := IntWalk.i64_in _ (by omega)
  clear hn hr g
  go_enter Try.func29, Try.ntmps29
  go_wp2
  have HX0 := hid (Box.new w N (some ⟨b, off, none⟩) n c 30)
  have HB0 := hid (on_alloc w (.cells #[.int .i64 (N : Int), .slice (some ⟨b, off, none⟩) n c] 30))
  go_loopw [3, 4] (fun u v wr => ∃ k : Nat, k ≤ n ∧ u = .int .i64 (mG N (dG N es) k) ∧ v = .int .i64 k ∧ Hid (2 ≤ mG N (dG N es) k ∧ mG N (dG N es) k ≤ N + 1) ∧ Hid (Box wr w.heap.size N (some ⟨b, off, none⟩) n c) ∧ Hid (Below w.heap.size w wr)) (fun _ v _ => n - (intOf v).toNat)
  case atStart => exact ⟨0, Nat.zero_le _, rfl, rfl, hid ⟨by show (2 : Int) ≤ (N : Int) + 1; omega, Int.le_refl _⟩, HX0, HB0⟩
  case round =>
    obtain ⟨k, hk, rfl, rfl, hM, hX, hB⟩ := hrel
    have hx := hX.out.1
    have hy := hX.out.2
    have hz := hX.out.lt
    obtain ⟨m, hm⟩ : ∃ m, mG N (dG N es) k = m := ⟨_, rfl⟩
    rw [hm] at hM
    rw [hm]
    have HMm := hid hm
    clear hm
    obtain ⟨wo, rfl⟩ : ∃ wo : World, wo = wr := ⟨_, rfl⟩
    by_cases hlt : k < n
    · have hlt' : (k : Int) < (n : Int) := by omega
      have hkl : k < es.length := by rw [Hn.out]; exact hlt
      have hok := G.out.1.2 k hkl
      unfold okEdge at hok
      obtain ⟨X, hX'⟩ : ∃ X : Nat, eA es k = X := ⟨_, (Int.toNat_of_nonneg hok.1).symm⟩
      obtain ⟨Y, hY'⟩ : ∃ Y : Nat, eB es k = Y := ⟨_, (Int.toNat_of_nonneg hok.2.2.1).symm⟩
      have hc1 := (Hr.out.on hB.out k hkl).1
      have hc2 := (Hr.out.on hB.out k hkl).2
      rw [hX'] at hc1
      rw [hY'] at hc2
      have hbw := World.block_lt_of_cell? wo _ hc1
      dsimp only at hbw
      have hXN : X < N := by omega
      have hYN : Y < N := by omega
      have hYN' : (Y : Int) < (N : Int) := by omega
      obtain ⟨D, hD⟩ : ∃ D, dG N es k = D := ⟨_, rfl⟩
      have hDF : eI (farF N es (fun j => (j : Int) != (k : Int)) (X : Int)) Y = D := by
        rw [← hD]
        unfold dG
        rw [hX', hY']
        rfl
      have hDb := (dG_or G.out hkl)
      rw [hD] at hDb
      have HDb := hid hDb
      have HDF := hid hDF
      have HD := hid hD
      have HFl := hid (farF_len (keep := fun j => (j : Int) != (k : Int)) (endsIn_of G.out) (a := (X : Int)) (by omega))
      clear hok hX' hY' hD hDF hDb
      go_upto_region 5 with fail
      go_cut [5] (fun z wx => z = .int .i64 D ∧ Hid (Below wo.heap.size wo wx))
      case first =>
        go_region_with (first
            | (go_at_call 57; refine (sFar_any N (X : Int) (k : Int) b off n c es _ Hn.out ?_ G.out (by omega) (fun j => (j : Int) != (k : Int)) (fun _ => rfl)).mono ?_; (exact (Hr.out.on hB.out).on (by have := Below.refl wo.heap.size wo; go_grown)); rintro e' wa ⟨qa, ca, rfl, hfa, hba⟩; obtain ⟨ga, rfl, hga, hoa⟩ := fresh_at hfa (by omega); have hBA : Below wo.heap.size wo wa := bfrom (by have := Below.refl wo.heap.size wo; go_grown) hba; obtain ⟨ha1, ha2⟩ := hX.out.on hBA; have ha3 := ((bcells hBA).1 _ _ hbw).trans hc1; have ha4 := ((bcells hBA).1 _ _ hbw).trans hc2; have hra := hoa.reads Y (by rw [HFl.out]; exact hYN); rw [Nat.zero_add, HDF.out] at hra; have hla := hoa.lt))
        all_goals
          go_wp2_with fail
          go_meet
          exact ⟨rfl, hid (by first | exact hBA | exact bdn.mpr hBA)⟩
      case rest =>
      obtain ⟨rfl, hcb⟩ := hcut
      obtain ⟨w5, rfl⟩ : ∃ w5, w5 = wc := ⟨_, rfl⟩
      have HX5 := hid (hX.out.on hcb.out)
      have HB5 := hid (bfrom hB.out hcb.out)
      have hD20 : D + 1 ≤ 20 := by have := HDb.out; omega
      have hDm : -1 ≤ D := by have := HDb.out; omega
      have hMb := hM.out
      have hm2 : m ≤ 21 := by omega
      have e1 : IntKind.i64.wrap (D + 1) = D + 1 := IntWalk.i64_in _ (by omega)
      have hst : mG N (dG N es) (k + 1) = if 0 < D then min m (D + 1) else m := by
        show (if 0 < dG N es k then min (mG N (dG N es) k) (dG N es k + 1) else mG N (dG N es) k) = _
        rw [HD.out, HMm.out]
      have HSt := hid hst
      clear hcb hx hy hz hc1 hc2 hst hMb
      by_cases h0 : 0 < D
      · have h0' : decide (0 < D) = true := decide_eq_true h0
        have HS2 := hid (show mG N (dG N es) (k + 1) = min m (D + 1) by rw [HSt.out, if_pos h0])
        have H0 := hid h0
        clear h0
        by_cases hmd : D + 1 < m
        · have HS3 := hid (show mG N (dG N es) (k + 1) = D + 1 by have := HS2.out; omega)
          go_wp2
          go_roundw
          case rel => exact ⟨k + 1, by omega, (by rw [HS3.out] <;> first | rfl | (congr 1; omega)), by go_num, hid (by rw [HS3.out]; have := H0.out; have := HDb.out; omega), HX5, HB5⟩
          case measure => simp [intOf]; omega
        · have HS3 := hid (show mG N (dG N es) (k + 1) = m by have := HS2.out; omega)
          go_wp2
          go_roundw
          case rel => exact ⟨k + 1, by omega, (by rw [HS3.out] <;> first | rfl | (congr 1; omega)), by go_num, hid (by rw [HS3.out]; exact hM.out), HX5, HB5⟩
          case measure => simp [intOf]; omega
      · have h0' : decide (0 < D) = false := decide_eq_false h0
        have HS3 := hid (show mG N (dG N es) (k + 1) = m by rw [HSt.out, if_neg h0])
        clear h0
        go_wp2
        go_roundw
        case rel => exact ⟨k + 1, by omega, (by rw [HS3.out] <;> first | rfl | (congr 1; omega)), by go_num, hid (by rw [HS3.out]; exact hM.out), HX5, HB5⟩
        case measure => simp [intOf]; omega
    · obtain rfl : k = n := by omega
      go_wp2
      go_ret
      exact ⟨by rw [HMm.out]; rfl, hB.out⟩

end Go.Proofs.Ytnimlipogphhmaa
