/- IsBipartite in the model. -/
import Derived.Test.YtafiockejagapaaFarS
import Derived.Test.YtafiockejagapaaLeadS
import Derived.Test.YtafiockejagapaaBipA
namespace Go.Proofs.Ytafiockejagapaa
open Go.RowKit

set_option maxRecDepth 100000 in
set_option maxHeartbeats 8000000 in
theorem sBip_yes (N : Nat) (b off n c : Nat) (es : List (Int × Int)) (w : World) (hn : es.length = n) (hr : ReadsE w b off es) (g : IsG N es) :
    Calls Try.prog 20 #[.agg #[.int .i64 N, .slice (some ⟨b, off, none⟩) n c]] w fun e w' => e = .returned (.tuple #[.bool (bipB N es), .int .i64 0]) ∧ Below w.heap.size w w' := by
  have hn30 : n ≤ 30 := by have := isG_len g; omega
  have hN4 : N ≤ 20 := by have := g.1.1.2.1; omega
  have hbl : b < w.heap.size := reads_lt hr (by have := g.1.1.2.2.2; have := g.1.1.1; omega)
  have Hn := hid hn
  have Hr := hid hr
  have G := hid g
  have EI := hid (endsIn_of g)
  obtain ⟨r, hR⟩ : ∃ r, bipB N es = r := ⟨_, rfl⟩
  rw [hR]
  have HR := hid hR
  clear hn hr g hR
  go_enter Try.func20, Try.ntmps20
  go_wp2_with fail
  refine (sIs_any _ _ _ _ es _ (by omega) Hn.out (SeesE.on (.inr ⟨b, off, rfl, Hr.out⟩) (on_alloc _ _))).mono ?_
  rw [decide_eq_true G.out]
  rintro e w2 ⟨rfl, hb2⟩
  have HB2 := hid (bfrom (w := w) (on_alloc _ _) hb2)
  have HX2 := hid ((Box.new w N (some ⟨b, off, none⟩) n c 30).on hb2)
  have hx2 := HX2.out.1
  have hy2' := HX2.out.2
  have hz2 := HX2.out.lt
  clear hb2
  go_wp2_with fail
  refine (sLeaders_any N _ n c es _ Hn.out hn30 hN4 (.inr ⟨b, off, rfl, Hr.out.on HB2.out⟩) EI.out).mono ?_
  rintro e w4 ⟨gl, capl, xs, rfl, hgl, hO, hL, hb4⟩
  have HO := hid hO
  have HL := hid hL
  have HB4 := hid (bfrom HB2.out hb4)
  have HX4 := hid (HX2.out.on hb4)
  have hgz := hO.lt
  have hz4 := HX4.out.lt
  clear hO hL hb4 hx2 hy2' hz2
  go_wp2
  go_loopw [5] (fun v wr => ∃ k : Nat, k ≤ n ∧ v = .int .i64 k ∧ Hid (∀ e L : Nat, e < k → eI xs (eA es e).toNat = L → ¬ (eI (farA N es L) (eA es e).toNat + eI (farA N es L) (eB es e).toNat) % 2 = 0) ∧ Hid (Below w4.heap.size w4 wr)) (fun v _ => n - (intOf v).toNat)
  case atStart => exact ⟨0, Nat.zero_le _, rfl, hid (fun e L h => by omega), hid (Below.refl _ _)⟩
  case round =>
    obtain ⟨k, hk, rfl, hD, hB⟩ := hrel
    have HXr := hid (HX4.out.on hB.out)
    have hxr := HXr.out.1
    have hyr := HXr.out.2
    have hzr := HXr.out.lt
    by_cases hlt : k < n
    · have hkl : k < es.length := by have := Hn.out; omega
      have HBx := hid (bfrom HB4.out hB.out)
      have hbr : b < wr.heap.size := by have := HBx.out.size; omega
      have hc1 := (Hr.out.on HBx.out k hkl).1
      have hE := EI.out k hkl
      obtain ⟨X, hX⟩ : ∃ X : Nat, eA es k = X := ⟨_, (Int.toNat_of_nonneg hE.1.1).symm⟩
      obtain ⟨Y, hY⟩ : ∃ Y : Nat, eB es k = Y := ⟨_, (Int.toNat_of_nonneg hE.2.1).symm⟩
      have hXN : X < N := by have := hE.1.2; omega
      have hYN : Y < N := by have := hE.2.2; omega
      have hXN' : (X : Int) < (N : Int) := by omega
      have hYN' : (Y : Int) < (N : Int) := by omega
      have hat := HL.out.1.at_ X hXN
      obtain ⟨L, hLx⟩ : ∃ L : Nat, eI xs X = L := ⟨_, (Int.toNat_of_nonneg hat.1).symm⟩
      have hle := lead_edge EI.out HL.out hkl (L := L) (by rw [hX, Int.toNat_natCast]; exact hLx)
      have hxl := (HO.out.on hB.out).reads X (by rw [HL.out.1.len]; exact hXN)
      rw [Nat.zero_add, hLx] at hxl
      have hglz : gl < wr.heap.size := (HO.out.on hB.out).lt
      rw [hX] at hc1
      rw [hX, hY, Int.toNat_natCast, Int.toNat_natCast] at hle
      have HX := hid hX
      have HY := hid hY
      have HLx := hid hLx
      obtain ⟨P1, hP1⟩ : ∃ P : Nat, eI (farA N es L) X = P := ⟨_, (Int.toNat_of_nonneg hle.2.2.2.2.2.2.1).symm⟩
      obtain ⟨P2, hP2⟩ : ∃ P : Nat, eI (farA N es L) Y = P := ⟨_, (Int.toNat_of_nonneg hle.2.2.2.2.2.2.2).symm⟩
      have HLN := hid hle.1
      have HP1 := hid hP1
      have HP2 := hid hP2
      have hb1 := farF_bnd (keep := fun _ => true) EI.out (a := (L : Int)) (by have := hle.1; omega) hXN
      have hb2 := farF_bnd (keep := fun _ => true) EI.out (a := (L : Int)) (by have := hle.1; omega) hYN
      have hP1s : P1 ≤ 20 := by have h := hb1.2; rw [show eI (farF N es (fun _ => true) (L : Int)) X = P1 from hP1] at h; omega
      have hP2s : P2 ≤ 20 := by have h := hb2.2; rw [show eI (farF N es (fun _ => true) (L : Int)) Y = P2 from hP2] at h; omega
      clear hE hX hY hat hLx hle hP1 hP2 hb1 hb2
      obtain ⟨wo, rfl⟩ : ∃ wo : World, wo = wr := ⟨_, rfl⟩
      go_wp2
      go_still_tail 10, (by kernel_rfl)
      go_wp2_with fail
      refine (sFar_any N L (-1) b off n c es _ Hn.out (Hr.out.on (bfrom HBx.out (Below.refl _ _).drew)) G.out (by have := HLN.out; omega) (fun _ => true) (fun e => by symm; simp)).mono ?_
      rintro e' w6 ⟨q6, cap6, rfl, hf6, hb6⟩
      have HFl := hid (farF_len (keep := fun _ => true) EI.out (a := (L : Int)) (by have := HLN.out; omega))
      obtain ⟨gf, rfl, hgf, hof⟩ : ∃ gf, q6 = some ⟨gf, 0, none⟩ ∧ _ ∧ OwnI w6 gf cap6 (farF N es (fun _ => true) L) := by
        rcases hf6.form with ⟨_, h, _⟩ | h
        · omega
        · exact h
      have hB6 : Below w4.heap.size w4 w6 := bfrom (bfrom hB.out (Below.refl _ _).drew) hb6
      have HB6 := hid hB6
      have HX6 := hid (HX4.out.on hB6)
      have hx6 := HX6.out.1
      have hy6 := HX6.out.2
      have hz6 := HX6.out.lt
      have hc16 := (Hr.out.on (bfrom HB4.out hB6) k hkl).1
      have hc26 := (Hr.out.on (bfrom HB4.out hB6) k hkl).2
      rw [HX.out] at hc16
      rw [HY.out] at hc26
      have hb6z : b < w6.heap.size := by have := hb6.size; have h2 : wo.drew.heap.size = wo.heap.size := rfl; omega
      have hd1 := hof.reads X (by rw [HFl.out]; exact hXN)
      have hd2 := hof.reads Y (by rw [HFl.out]; exact hYN)
      rw [Nat.zero_add, show eI (farF N es (fun _ => true) (L : Int)) X = P1 from HP1.out] at hd1
      rw [Nat.zero_add, show eI (farF N es (fun _ => true) (L : Int)) Y = P2 from HP2.out] at hd2
      have hgfz := hof.lt
      have ews : IntKind.i64.wrap ((P1 : Int) + P2) = (P1 : Int) + P2 := IntWalk.i64_in _ (by omega)
      clear hf6 hof hB6 hb6
      by_cases hp : ((P1 : Int) + P2) % 2 = 0
      · have t1 : (((P1 : Int) + P2) % 2 == 0) = true := by simpa using hp
        have HP := hid hp
        clear hp
        go_wp2
        go_quiet (fail)
        go_wp2
        go_ret2
        refine ⟨?_, by simp only [bdn]; exact bfrom HB4.out HB6.out⟩
        rw [← HR.out, bip_even EI.out HL.out hkl (L := L) (by rw [HX.out, Int.toNat_natCast]; exact HLx.out) (by rw [HX.out, HY.out, Int.toNat_natCast, Int.toNat_natCast, HP1.out, HP2.out]; exact HP.out)]
        rfl
      · have t1 : (((P1 : Int) + P2) % 2 == 0) = false := by simpa using hp
        have HP := hid hp
        clear hp
        go_wp2
        go_quiet (fail)
        go_wp2
        go_roundw
        case rel =>
          refine ⟨k + 1, by omega, by go_num, hid (fun e L' he hL' => ?_), hid (bdn.mpr HB6.out)⟩
          rcases Nat.lt_or_ge e k with h | h
          · exact hD.out e L' h hL'
          · have ek : e = k := by omega
            rw [ek] at hL' ⊢
            rw [HX.out, Int.toNat_natCast, HLx.out] at hL'
            have eL' : L' = L := by omega
            rw [eL', HX.out, HY.out, Int.toNat_natCast, Int.toNat_natCast, HP1.out, HP2.out]
            exact HP.out
        case measure => simp [intOf]; omega
    · have hkn := hid (show k = n by omega)
      go_wp2
      go_ret2
      refine ⟨?_, bfrom HB4.out hB.out⟩
      rw [← HR.out, bip_odd EI.out HL.out (fun e L he hL => hD.out e L (by have := Hn.out; have := hkn.out; omega) hL)]
      rfl

set_option maxRecDepth 100000 in
set_option maxHeartbeats 2000000 in
theorem sBip_no (s : Int) (p : Option Addr) (n c : Nat) (es : List (Int × Int)) (w : World) (hm : n ≤ 1048576) (hn : es.length = n) (hr : SeesE w p es) (g : ¬ IsG s es) :
    Calls Try.prog 20 #[.agg #[.int .i64 s, .slice p n c]] w fun e w' => e = .returned (.tuple #[.bool false, .int .i64 1]) ∧ Below w.heap.size w w' := by
  have Hn := hid hn
  have Hr := hid hr
  have G := hid g
  have hm9 : n ≤ 9223372036854775807 := by omega
  clear hn hr g
  go_enter Try.func20, Try.ntmps20
  go_wp2_with fail
  refine (sIs_any _ _ _ _ es _ hm9 Hn.out (Hr.out.on (on_alloc _ _))).mono ?_
  rw [decide_eq_false G.out]
  rintro e w2 ⟨rfl, hb2⟩
  have hB2 := bfrom (w := w) (by go_grown) hb2
  go_wp2
  go_ret2
  exact ⟨rfl, hB2⟩

theorem sIsBipartite_any (s : Int) (p : Option Addr) (n c : Nat) (es : List (Int × Int)) (w : World) (hm : n ≤ 1048576) (hn : es.length = n) (hr : SeesE w p es) :
    Calls Try.prog 20 #[.agg #[.int .i64 s, .slice p n c]] w fun e w' => e = .returned (.tuple #[.bool (fIsBipartite s es).1, .int .i64 (fIsBipartite s es).2]) ∧ Below w.heap.size w w' := by
  unfold fIsBipartite
  by_cases g : IsG s es
  · rw [if_pos g]
    obtain ⟨N, rfl⟩ : ∃ N : Nat, s = N := ⟨_, (Int.toNat_of_nonneg (by have := g.1.1.1; omega)).symm⟩
    rw [Int.toNat_natCast]
    obtain ⟨b, off, rfl, rd⟩ := isG_sees g hr
    exact sBip_yes N b off n c es w hn rd g
  · rw [if_neg g]
    exact sBip_no s p n c es w hm hn hr g

end Go.Proofs.Ytafiockejagapaa
