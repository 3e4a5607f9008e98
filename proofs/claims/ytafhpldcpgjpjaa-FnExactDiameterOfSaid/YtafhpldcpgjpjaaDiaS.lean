/- DiameterOf in the model. -/
import Derived.Test.YtafhpldcpgjpjaaDiaA
import Derived.Test.YtafhpldcpgjpjaaPartsS
import Derived.Test.YtafhpldcpgjpjaaFarS
namespace Go.Proofs.Ytafhpldcpgjpjaa
open Go.RowKit

set_option maxRecDepth 100000 in
set_option maxHeartbeats 2000000 in
theorem sDia_none (s : Int) (p : Option Addr) (n c : Nat) (es : List (Int × Int)) (w : World) (hm : n ≤ 1048576) (hn : es.length = n) (hr : SeesE w p es) (g : ¬ IsG s es) :
    Calls Try.prog 28 #[.agg #[.int .i64 s, .slice p n c]] w fun e w' => e = .returned (.tuple #[.int .i64 0, .int .i64 1]) ∧ Below w.heap.size w w' := by
  have Hn := hid hn
  have Hr := hid hr
  have G := hid g
  have hm9 : n ≤ 9223372036854775807 := by omega
  clear hn hr g
  go_enter Try.func28, Try.ntmps28
  go_wp2_with fail
  refine (sIs_any _ _ _ _ es _ hm9 Hn.out (Hr.out.on (on_alloc _ _))).mono ?_
  rw [decide_eq_false G.out]
  rintro e w2 ⟨rfl, hb2⟩
  have hB2 := bfrom (w := w) (by go_grown) hb2
  go_wp2
  go_ret2
  exact ⟨rfl, hB2⟩

set_option maxRecDepth 100000 in
set_option maxHeartbeats 2000000 in
theorem sDia_state (N : Nat) (p : Option Addr) (n c : Nat) (es : List (Int × Int)) (w : World) (hn : es.length = n) (hr : SeesE w p es) (g : IsG N es) (h1 : numP N es ≠ 1) :
    Calls Try.prog 28 #[.agg #[.int .i64 N, .slice p n c]] w fun e w' => e = .returned (.tuple #[.int .i64 0, .int .i64 5]) ∧ Below w.heap.size w w' := by
  have hn30 : n ≤ 30 := by have := isG_len g; omega
  have hN4 : N ≤ 20 := by have := g.1.1.2.1; omega
  have Hn := hid hn
  have Hr := hid hr
  have G := hid g
  have H1 := hid (show (numP N es == 1) = false by simpa using h1)
  clear hn hr g h1
  go_enter Try.func28, Try.ntmps28
  go_wp2_with fail
  refine (sIs_any _ _ _ _ es _ (by omega) Hn.out (Hr.out.on (on_alloc _ _))).mono ?_
  rw [decide_eq_true G.out]
  rintro e w2 ⟨rfl, hb2⟩
  have HB2 := hid (bfrom (w := w) (on_alloc _ _) hb2)
  have hX2 := (Box.new w N p n c 31).on hb2
  have hx2 := hX2.1
  have hy2 := hX2.2
  have hz2 := hX2.lt
  clear hX2 hb2
  go_wp2_with fail
  refine (sConnected_any N p n c es _ Hn.out hn30 hN4 (Hr.out.on HB2.out) (endsIn_of G.out)).mono ?_
  rw [H1.out]
  rintro e w3 ⟨rfl, hb3⟩
  have HB3 := hid (bfrom HB2.out hb3)
  clear hx2 hy2 hz2 hb3
  go_wp2
  go_ret2
  exact ⟨rfl, HB3.out⟩

set_option maxRecDepth 100000 in
set_option maxHeartbeats 8000000 in
theorem sDia_yes (N : Nat) (b off n c : Nat) (es : List (Int × Int)) (w : World) (hn : es.length = n) (hr : ReadsE w b off es) (g : IsG N es) (h1 : numP N es = 1) :
    Calls Try.prog 28 #[.agg #[.int .i64 N, .slice (some ⟨b, off, none⟩) n c]] w fun e w' => e = .returned (.tuple #[.int .i64 (diaU N es N), .int .i64 0]) ∧ Below w.heap.size w w' := by
  have hn30 : n ≤ 30 := by have := isG_len g; omega
  have hN4 : N ≤ 20 := by have := g.1.1.2.1; omega
  have Hn := hid hn
  have Hr := hid hr
  have G := hid g
  have H1 := hid (show (numP N es == 1) = true by simpa using h1)
  clear hn hr g h1
  go_enter Try.func28, Try.ntmps28
  go_wp2_with fail
  refine (sIs_any _ _ _ _ es _ (by omega) Hn.out (SeesE.on (.inr ⟨b, off, rfl, Hr.out⟩) (on_alloc _ _))).mono ?_
  rw [decide_eq_true G.out]
  rintro e w2 ⟨rfl, hb2⟩
  have HB2 := hid (bfrom (w := w) (on_alloc _ _) hb2)
  have hX2 := (Box.new w N (some ⟨b, off, none⟩) n c 31).on hb2
  have HX2 := hid hX2
  have hx2 := hX2.1
  have hy2 := hX2.2
  have hz2 := hX2.lt
  clear hX2 hb2
  go_wp2_with fail
  refine (sConnected_any N _ n c es _ Hn.out hn30 hN4 (SeesE.on (.inr ⟨b, off, rfl, Hr.out⟩) HB2.out) (endsIn_of G.out)).mono ?_
  rw [H1.out]
  rintro e w3 ⟨rfl, hb3⟩
  have HB3 := hid (bfrom HB2.out hb3)
  have HX3 := hid (HX2.out.on hb3)
  clear hx2 hy2 hz2 hb3
  go_wp2
  go_loopw [4, 5] (fun u v wr => ∃ a : Nat, a ≤ N ∧ u = .int .i64 (diaU N es a) ∧ v = .int .i64 a ∧ Hid (Below w3.heap.size w3 wr)) (fun _ v _ => N - (intOf v).toNat)
  case atStart => exact ⟨0, Nat.zero_le _, rfl, rfl, hid (Below.refl _ _)⟩
  case round =>
    obtain ⟨a, ha, rfl, rfl, hB⟩ := hrel
    have HXr := hid (HX3.out.on hB.out)
    have hxr := HXr.out.1
    have hyr := HXr.out.2
    have hzr := HXr.out.lt
    obtain ⟨d0, hd0⟩ : ∃ d0, diaU N es a = d0 := ⟨_, rfl⟩
    rw [hd0]
    have HD0 := hid hd0
    clear hd0
    by_cases hlt : a < N
    · obtain ⟨wo, rfl⟩ : ∃ wo : World, wo = wr := ⟨_, rfl⟩
      have HBw := hid (bfrom HB3.out hB.out)
      go_wp2_with fail
      refine (sFar_any N a (-1) b off n c es _ Hn.out (Hr.out.on HBw.out) G.out (by omega) (fun _ => true) (fun e => by show true = ((e : Int) != -1); simp)).mono ?_
      rintro e' w4 ⟨q, cap, rfl, hf4, hb4⟩
      obtain ⟨g4, rfl, _, ho4⟩ : ∃ g, q = some ⟨g, 0, none⟩ ∧ wo.heap.size ≤ g ∧ OwnI w4 g cap (farF N es (fun _ => true) a) := by
        rcases hf4.form with ⟨_, h, _⟩ | h
        · omega
        · exact h
      have HO4 := hid ho4
      have HB4 := hid (hB.out.trans (hb4.mono hB.out.size))
      have HX4 := hid (HXr.out.on hb4)
      have hgz := ho4.lt
      have HFl := hid (farF_len (keep := fun _ => true) (endsIn_of G.out) (a := (a : Int)) (by omega))
      clear hf4 hb4 ho4 hxr hyr hzr
      have hx4 := HX4.out.1
      have hz4 := HX4.out.lt
      go_wp2
      go_loopw [4, 7] (fun u v wr => ∃ j : Nat, j ≤ N ∧ u = .int .i64 (maxU d0 (farF N es (fun _ => true) a) j) ∧ v = .int .i64 j ∧ Hid (wr = w4)) (fun _ v _ => N - (intOf v).toNat)
      case atStart => exact ⟨0, Nat.zero_le _, rfl, rfl, hid rfl⟩
      case round =>
        obtain ⟨j, hj, rfl, rfl, hw⟩ := hrel
        obtain rfl := hw.out
        obtain ⟨m, hm⟩ : ∃ m, maxU d0 (farF N es (fun _ => true) a) j = m := ⟨_, rfl⟩
        rw [hm]
        have HM := hid hm
        by_cases hltj : j < N
        · have hc := HO4.out.reads j (by rw [HFl.out]; exact hltj)
          rw [Nat.zero_add] at hc
          obtain ⟨y, hy⟩ : ∃ y, eI (farF N es (fun _ => true) a) j = y := ⟨_, rfl⟩
          rw [hy] at hc
          rcases Int.lt_or_le m y with hmy | hmy
          · have HS := hid (show maxU d0 (farF N es (fun _ => true) a) (j + 1) = y by rw [maxU_lt (by rw [hm, hy]; exact hmy), hy])
            clear hm hy
            go_wp2
            go_roundw
            case rel => exact ⟨j + 1, by omega, by rw [HS.out], by go_num, by first | exact hid rfl | exact hid trivial⟩
            case measure => simp [intOf]; omega
          · have hmy' : ¬ m < y := by omega
            have HS := hid (show maxU d0 (farF N es (fun _ => true) a) (j + 1) = m by rw [maxU_ge (by rw [hm, hy]; exact hmy'), hm])
            clear hm hy
            go_wp2
            go_roundw
            case rel => exact ⟨j + 1, by omega, by rw [HS.out], by go_num, by first | exact hid rfl | exact hid trivial⟩
            case measure => simp [intOf]; omega
        · have hjN := hid (show j = N by omega)
          have HS := hid (show diaU N es (a + 1) = m by have h := HM.out; rw [hjN.out] at h; rw [diaU, HD0.out]; exact h)
          clear hm
          go_wp2
          go_roundw
          case rel => exact ⟨a + 1, by omega, by rw [HS.out], by go_num, HB4⟩
          case measure => simp [intOf]; omega
    · have haN := hid (show a = N by omega)
      have HS := hid (show diaU N es N = d0 by have h := HD0.out; rw [haN.out] at h; exact h)
      go_wp2
      go_ret2
      refine ⟨?_, bfrom HB3.out hB.out⟩
      rw [HS.out]
      rfl

theorem sDiameterOf_any (s : Int) (p : Option Addr) (n c : Nat) (es : List (Int × Int)) (w : World) (hm : n ≤ 1048576) (hl : es.length = n) (hr : SeesE w p es) :
    Calls Try.prog 28 #[.agg #[.int .i64 s, .slice p n c]] w fun e' w' => e' = .returned (.tuple #[.int .i64 (fDiameterOf s es).1, .int .i64 (fDiameterOf s es).2]) ∧ Below w.heap.size w w' := by
  unfold fDiameterOf
  by_cases g : IsG s es
  · rw [if_pos g]
    obtain ⟨N, rfl⟩ : ∃ N : Nat, s = N := ⟨_, (Int.toNat_of_nonneg (by have := g.1.1.1; omega)).symm⟩
    rw [Int.toNat_natCast]
    by_cases h1 : numP N es = 1
    · rw [if_pos h1]
      obtain ⟨b, off, rfl, rd⟩ := isG_sees g hr
      exact sDia_yes N b off n c es w hl rd g h1
    · rw [if_neg h1]
      exact sDia_state N p n c es w hl hr g h1
  · rw [if_neg g]
    exact sDia_none s p n c es w hm hl hr g

end Go.Proofs.Ytafhpldcpgjpjaa
