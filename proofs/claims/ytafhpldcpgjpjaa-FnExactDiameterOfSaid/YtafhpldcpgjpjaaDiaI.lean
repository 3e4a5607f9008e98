/- DiameterOf in the program. -/
import Derived.Test.YtafhpldcpgjpjaaDiaA
import Derived.Test.YtafhpldcpgjpjaaDistJ
import Derived.Test.YtafhpldcpgjpjaaSetI
import Derived.Test.YtafhpldcpgjpjaaImplG
import Derived.Deep.RegionWith
import Derived.Deep.DeepCutAuto
namespace Go.Proofs.Ytafhpldcpgjpjaa
open Go.RowKit

set_option maxRecDepth 100000 in
set_option maxHeartbeats 4000000 in
theorem iMax_any (g n c : Nat) (xs : List Int) (w : World) (cap : Nat) (hn : xs.length = n) (hn1 : 1 ≤ n) (hn2 : n ≤ 1000) (hO : OwnI w g cap xs) :
    Calls Try.prog 65 #[.slice (some ⟨g, 0, none⟩) n c] w fun e w' => e = .returned (.int .i64 (maxU (eI xs 0) xs n)) ∧ w = w' := by
  have Hn := hid hn
  have HO := hid hO
  have hc0 := hO.reads 0 (by omega)
  rw [Nat.add_zero] at hc0
  have hgz := hO.lt
  obtain ⟨x0, hx0⟩ : ∃ x0, eI xs 0 = x0 := ⟨_, rfl⟩
  rw [hx0] at hc0 ⊢
  have HX0 := hid hx0
  have e1 : decide ((n : Int) < 1) = false := by simp; omega
  clear hn hO hx0
  go_enter Try.func65, Try.ntmps65
  go_wp2
  go_loop [3, 4] (fun u v => ∃ k : Nat, 1 ≤ k ∧ k ≤ n ∧ u = .int .i64 (maxU x0 xs k) ∧ v = .int .i64 k) (fun _ v => n - (intOf v).toNat)
  case atStart => exact ⟨1, Nat.le_refl _, hn1, by show _ = Value.int .i64 (max x0 (eI xs 0)); rw [HX0.out, Int.max_self], rfl⟩
  case round =>
    obtain ⟨k, hk1, hk, rfl, rfl⟩ := hrel
    obtain ⟨m, hm⟩ : ∃ m, maxU x0 xs k = m := ⟨_, rfl⟩
    rw [hm]
    have HM := hid hm
    by_cases hlt : k < n
    · have hc := HO.out.reads k (by have := Hn.out; omega)
      rw [Nat.zero_add] at hc
      obtain ⟨y, hy⟩ : ∃ y, eI xs k = y := ⟨_, rfl⟩
      rw [hy] at hc
      rcases Int.lt_or_le m y with hmy | hmy
      · have HS := hid (show maxU x0 xs (k + 1) = y by rw [maxU_lt (by rw [hm, hy]; exact hmy), hy])
        clear hm hy
        go_wp2
        go_round
        case rel => exact ⟨k + 1, by omega, by omega, (by rw [HS.out]; first | rfl | (congr 1; omega)), by go_num⟩
        case measure => simp [intOf]; omega
      · have hmy' : ¬ m < y := by omega
        have HS := hid (show maxU x0 xs (k + 1) = m by rw [maxU_ge (by rw [hm, hy]; exact hmy'), hm])
        clear hm hy
        go_wp2
        go_round
        case rel => exact ⟨k + 1, by omega, by omega, (by rw [HS.out]; first | rfl | (congr 1; omega)), by go_num⟩
        case measure => simp [intOf]; omega
    · have hkn := hid (show k = n by omega)
      clear hm
      go_wp2
      go_ret
      refine ⟨?_, rfl⟩
      have h := HM.out
      rw [hkn.out] at h
      rw [h]
      rfl

set_option maxRecDepth 100000 in
set_option maxHeartbeats 2000000 in
theorem iDia_none (s : Int) (p : Option Addr) (n c : Nat) (es : List (Int × Int)) (w : World) (hm : n ≤ 1048576) (hn : es.length = n) (hr : SeesE w p es) (g : ¬ IsG s es) :
    Calls Try.prog 29 #[.agg #[.int .i64 s, .slice p n c]] w fun e w' => e = .returned (.tuple #[.int .i64 0, .int .i64 1]) ∧ Below w.heap.size w w' := by
  have Hn := hid hn
  have Hr := hid hr
  have G := hid g
  clear hn hr g
  go_enter Try.func29, Try.ntmps29
  go_wp2_with fail
  refine (iIsGraph_any _ _ _ _ es _ hm Hn.out (Hr.out.on (on_alloc _ _))).mono ?_
  rw [decide_eq_false G.out]
  rintro e w2 ⟨rfl, hb2⟩
  have hB2 := bfrom (w := w) (by go_grown) hb2
  go_wp2
  go_ret2
  exact ⟨rfl, hB2⟩

def DiaR (N : Nat) (es : List (Int × Int)) : Int × Int := if numP N es = 1 then (diaU N es N, 0) else (0, 5)

set_option maxRecDepth 100000 in
set_option maxHeartbeats 8000000 in
theorem iDia_yes (N : Nat) (b off n c : Nat) (es : List (Int × Int)) (w : World) (hn : es.length = n) (hr : ReadsE w b off es) (g : IsG N es) :
    Calls Try.prog 29 #[.agg #[.int .i64 N, .slice (some ⟨b, off, none⟩) n c]] w fun e w' => e = .returned (.tuple #[.int .i64 (DiaR N es).1, .int .i64 (DiaR N es).2]) ∧ Below w.heap.size w w' := by
  have hn30 : n ≤ 30 := by have := isG_len g; omega
  have hNN : 1 ≤ N ∧ N ≤ 20 := by have := g.1.1.1; have := g.1.1.2.1; omega
  have HNN := hid hNN
  obtain ⟨hN1, hN2⟩ := hNN
  have Hn := hid hn
  have Hr := hid hr
  have G := hid g
  have HEI := hid (endsIn_of g)
  have HNE := hid (show ∀ i, i < es.length → eA es i ≠ eB es i from fun _ hi => isG_ne g hi)
  have hbb : b < w.heap.size := reads_lt hr (by have := isG_len g; have := g.1.1.2.2.2; have := g.1.1.1; omega)
  clear hn hr g
  go_enter Try.func29, Try.ntmps29
  go_wp2_with fail
  refine (iIsGraph_any _ _ _ _ es _ (by omega) Hn.out (SeesE.on (.inr ⟨b, off, rfl, Hr.out⟩) (on_alloc _ _))).mono ?_
  rw [decide_eq_true G.out]
  rintro e w2 ⟨rfl, hb2⟩
  have HB2 := hid (bfrom (w := w) (on_alloc _ _) hb2)
  have hX2 := (Box.new w N (some ⟨b, off, none⟩) n c 31).on hb2
  have HX2 := hid hX2
  have hx2 := hX2.1
  have hz2 := hX2.lt
  clear hX2 hb2
  go_wp2
  go_loopw [4, 12] (fun u v wr => ∃ a : Nat, a ≤ N ∧ (0 < a → numP N es = 1) ∧ u = .int .i64 (diaU N es a) ∧ v = .int .i64 a ∧ Hid (Below w2.heap.size w2 wr)) (fun _ v _ => N - (intOf v).toNat)
  case atStart => exact ⟨0, Nat.zero_le _, fun h => by omega, rfl, rfl, hid (Below.refl _ _)⟩
  case round =>
    obtain ⟨a, ha, hcon, rfl, rfl, hB⟩ := hrel
    have HCon := hid hcon
    have HXr := hid (HX2.out.on hB.out)
    have hxr := HXr.out.1
    have hyr := HXr.out.2
    have hzr := HXr.out.lt
    obtain ⟨d0, hd0⟩ : ∃ d0, diaU N es a = d0 := ⟨_, rfl⟩
    rw [hd0]
    have HD0 := hid hd0
    clear hd0 hcon
    by_cases hlt : a < N
    · obtain ⟨wo, rfl⟩ : ∃ wo : World, wo = wr := ⟨_, rfl⟩
      have HBw := hid (bfrom HB2.out hB.out)
      have hwz := HBw.out.size
      go_upto_region 7 with fail
      go_cut [6] (fun z wx => ∃ gf, z = .slice (some ⟨gf, 0, none⟩) N N ∧ Hid (OwnI wx gf N (farF N es (fun _ => true) a) ∧ Below wo.heap.size wo wx))
      case first =>
        go_region_with (first
          | (go_at_call 63; refine (iNoEdge_any _).mono ?_; rintro e' w3 ⟨rfl, hb3⟩; have hc3 := ((bcells hb3).1 _ _ hzr).trans hxr; have hd3 := ((bcells hb3).1 _ _ hzr).trans hyr; have hb3' : Below wo.heap.size wo w3 := bfrom (Below.refl _ _).drew hb3)
          | (go_at_call 62; refine (iDistAll_any N a b off n c es _ Hn.out hn30 (by have := hb3'.size; omega) (Hr.out.on (bfrom HBw.out hb3')) HEI.out HNE.out HNN.out (by omega)).mono ?_; rintro e' w4 ⟨gg, rfl, hgg, ho4, hb4⟩; have hb4' : Below wo.heap.size wo w4 := bfrom hb3' hb4))
        all_goals
          go_wp2_with fail
          go_meet
          exact ⟨gg, rfl, hid ⟨by first | exact ho4 | exact OwnI.drewN ho4, by first | exact hb4' | exact bdn.mpr hb4'⟩⟩
      case rest =>
      obtain ⟨gf, rfl, hcb⟩ := hcut
      obtain ⟨w5, rfl⟩ : ∃ w5, w5 = wc := ⟨_, rfl⟩
      have HF := hid hcb.out.1
      have HB5 := hid (hB.out.trans (hcb.out.2.mono hB.out.size))
      have HFl := hid (farF_len (keep := fun _ => true) HEI.out (a := (a : Int)) (by omega))
      clear hcb hxr hyr hzr
      by_cases h1 : numP N es = 1
      · have HD := hid (far_all HEI.out hN1 h1 hlt)
        have H1 := hid h1
        clear h1
        go_wp2_with fail
        refine (iContains_any _ _ _ _ (farF N es (fun _ => true) a) _ HFl.out (by omega) HF.out.sees).mono ?_
        rw [HD.out]
        rintro e' w6 ⟨rfl, rfl⟩
        go_wp2_with fail
        refine (iMax_any gf N N (farF N es (fun _ => true) a) _ N HFl.out hN1 (by omega) HF.out).mono ?_
        rintro e' w7 ⟨rfl, rfl⟩
        obtain ⟨y, hy⟩ : ∃ y, maxU (eI (farF N es (fun _ => true) a) 0) (farF N es (fun _ => true) a) N = y := ⟨_, rfl⟩
        rw [hy]
        have HS := hid (show diaU N es (a + 1) = max d0 y by
          obtain ⟨N', hN'⟩ : ∃ N', N = N' + 1 := ⟨N - 1, by omega⟩
          rw [← hy, maxU_max, ← HD0.out, diaU]
          rw [hN']
          exact (maxU_first _ _ _).symm)
        clear hy
        rcases Int.lt_or_le d0 y with hmy | hmy
        · have HS2 := hid (show diaU N es (a + 1) = y by have := HS.out; omega)
          go_wp2
          go_roundw
          case rel => exact ⟨a + 1, by omega, fun _ => H1.out, (by rw [HS2.out]; first | rfl | (congr 1; omega)), by go_num, HB5⟩
          case measure => simp [intOf]; omega
        · have hmy' : ¬ d0 < y := by omega
          have HS2 := hid (show diaU N es (a + 1) = d0 by have := HS.out; omega)
          go_wp2
          go_roundw
          case rel => exact ⟨a + 1, by omega, fun _ => H1.out, (by rw [HS2.out]; first | rfl | (congr 1; omega)), by go_num, HB5⟩
          case measure => simp [intOf]; omega
      · obtain rfl : a = 0 := by
          rcases Nat.eq_zero_or_pos a with h | h
          · exact h
          · exact absurd (HCon.out h) h1
        have HD := hid (far_some HEI.out hN1 h1)
        have HR := hid (show DiaR N es = (0, 5) by unfold DiaR; rw [if_neg h1])
        clear h1
        go_wp2_with fail
        refine (iContains_any _ _ _ _ (farF N es (fun _ => true) ((0 : Nat) : Int)) _ HFl.out (by omega) HF.out.sees).mono ?_
        rw [HD.out]
        rintro e' w6 ⟨rfl, rfl⟩
        go_wp2
        go_ret2
        refine ⟨?_, bfrom HB2.out HB5.out⟩
        rw [HR.out]
        rfl
    · have haN := hid (show a = N by omega)
      have HS := hid (show DiaR N es = (d0, 0) by
        have h := HD0.out
        rw [haN.out] at h
        unfold DiaR
        rw [if_pos (HCon.out (by omega)), h])
      go_wp2
      go_ret2
      refine ⟨?_, bfrom HB2.out hB.out⟩
      rw [HS.out]
      rfl

theorem iDiameterOf_any (s : Int) (p : Option Addr) (n c : Nat) (es : List (Int × Int)) (w : World) (hm : n ≤ 1048576) (hl : es.length = n) (hr : SeesE w p es) :
    Calls Try.prog 29 #[.agg #[.int .i64 s, .slice p n c]] w fun e' w' => e' = .returned (.tuple #[.int .i64 (fDiameterOf s es).1, .int .i64 (fDiameterOf s es).2]) ∧ Below w.heap.size w w' := by
  unfold fDiameterOf
  by_cases g : IsG s es
  · rw [if_pos g]
    obtain ⟨N, rfl⟩ : ∃ N : Nat, s = N := ⟨_, (Int.toNat_of_nonneg (by have := g.1.1.1; omega)).symm⟩
    rw [Int.toNat_natCast]
    obtain ⟨b, off, rfl, rd⟩ := isG_sees g hr
    exact iDia_yes N b off n c es w hl rd g
  · rw [if_neg g]
    exact iDia_none s p n c es w hm hl hr g

end Go.Proofs.Ytafhpldcpgjpjaa
