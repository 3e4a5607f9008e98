/- Flows in the model: the tests of flows. -/
import Derived.Test.YthncgpbgffbpgaaDoorFloS
namespace Go.Proofs.YthncgpbgffbpgaaDoor
open Go.RowKit

set_option maxRecDepth 100000 in
set_option maxHeartbeats 4000000 in
theorem sFlow_any (N b off n c f : Nat) (ps : Option Addr) (es : List (Int × Int)) (xs : List Int) (m : Int) (w : World) (hn : es.length = n) (hr : ReadsE w b off es) (hx : xs.length = n) (hrx : SeesI w ps xs) (g : IsG N es) (hv : ∀ i, i < xs.length → -1000 ≤ eI xs i ∧ eI xs i ≤ 1000) (hm : okMod m) :
    Calls Tryd.prog 25 #[.agg #[.int .i64 N, .slice (some ⟨b, off, none⟩) n c], .int .i64 m, .slice ps n f] w fun e' w' => e' = .returned (.bool (decide (flowP (zMod m) N es xs))) ∧ Below w.heap.size w w' := by
  have Hn := hid hn
  have Hr := hid hr
  have Hx := hid hx
  have Hrx := hid hrx
  have G := hid g
  have HV := hid hv
  have hN3 : 2 ≤ N ∧ N ≤ 20 := by have := g.1.1.1; have := g.1.1.2.1; omega
  obtain ⟨hN3, hN4⟩ := hN3
  have hm0 : ¬ m = 0 := by unfold okMod at hm; omega
  have HM := hid hm
  obtain ⟨r, hR⟩ : ∃ r, r = decide (flowP (zMod m) N es xs) := ⟨_, rfl⟩
  rw [← hR]
  have HR := hid hR
  have hNb : b < w.heap.size := reads_lt hr (by have := g.1.1; unfold okSize at this; omega)
  clear hn hr hx hrx g hv hm hR
  go_enter Tryd.func25, Tryd.ntmps25
  go_wp2_with fail
  refine (sNet_any N b off n c f ps es xs _ Hn.out (Hr.out.on (on_alloc _ _)) Hx.out (Hrx.out.on (on_alloc _ _)) G.out HV.out).mono ?_
  rintro e w2 ⟨q, rfl, hq, ho, hb2⟩
  have HB2 := hid (bfrom (w := w) (by go_grown) hb2)
  have HO := hid ho
  have hqw : w.heap.size < q := by simp at hq; omega
  clear hb2 ho hq
  go_wp2
  go_loopw [8] (fun i wr => ∃ (i' : Nat), i' ≤ N ∧ i = .int .i64 i' ∧ Hid (∀ v : Nat, v < i' → zMod m (netV es xs n v) = true) ∧ Hid (Below w2.heap.size w2 wr)) (fun i _ => N - (intOf i).toNat)
  case atStart => exact ⟨0, Nat.zero_le _, rfl, hid (fun v hv => by omega), hid (Below.refl _ _)⟩
  case round =>
    obtain ⟨i, hi, rfl, hD, hB⟩ := hrel
    by_cases hlt : i < N
    · have HOr := hid (HO.out.on hB.out)
      have h1 := HOr.out.cellI (i := i) (by rw [netL_len]; omega)
      rw [netL_at hlt] at h1
      have hgz := HOr.out.lt
      obtain ⟨a, ha⟩ : ∃ a, netV es xs n i = a := ⟨_, rfl⟩
      rw [ha] at h1
      have HA := hid ha
      have hnr := netV_near (es := es) HV.out i n (by have := Hx.out; omega)
      have hn30 : n ≤ 30 := by have := isG_len G.out; have := Hn.out; omega
      rw [ha] at hnr
      have ewX : True := (by
        trivial)
      clear ha
      by_cases h0 : a.tmod m = 0
      · have h0' : (a.tmod m != 0) = false := by simpa using h0
        have H0 := hid h0
        clear h0 hnr
        go_wp2
        go_roundw
        case rel =>
          refine ⟨i + 1, by omega, by go_num, hid (fun v hv => ?_), hid hB.out⟩
          rcases Nat.lt_or_ge v i with h | h
          · exact hD.out v h
          · obtain rfl : v = i := by omega
            rw [HA.out]
            exact decide_eq_true H0.out
        case measure => simp [intOf]; omega
      · have h0' : (a.tmod m != 0) = true := by simpa using h0
        have H0 := hid h0
        clear h0 hnr
        go_wp2
        go_ret
        refine ⟨?_, bfrom HB2.out hB.out⟩
        rw [HR.out, decide_eq_false (fun h => by
          have h1 := h i hlt
          rw [Hn.out, HA.out] at h1
          exact H0.out (of_decide_eq_true h1))]
        rfl
    · obtain rfl : i = N := by omega
      go_wp2
      go_ret
      refine ⟨?_, bfrom HB2.out hB.out⟩
      rw [HR.out, decide_eq_true (show flowP (zMod m) i es xs from fun v hv => by rw [Hn.out]; exact hD.out v hv)]
      rfl

end Go.Proofs.YthncgpbgffbpgaaDoor
