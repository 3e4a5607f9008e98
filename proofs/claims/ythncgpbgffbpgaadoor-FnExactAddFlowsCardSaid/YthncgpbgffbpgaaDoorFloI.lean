/- Flows in the program: the codes. -/
import Derived.Test.YthncgpbgffbpgaaDoorImplG
import Derived.Test.YthncgpbgffbpgaaDoorRowsI
import Derived.Test.YthncgpbgffbpgaaDoorFloA
import Derived.Test.YthncgpbgffbpgaaDoorOwnMore
namespace Go.Proofs.YthncgpbgffbpgaaDoor
open Go.RowKit

set_option maxRecDepth 100000 in
set_option maxHeartbeats 2000000 in
theorem iFCode_any (s : Int) (p : Option Addr) (n c : Nat) (es : List (Int × Int)) (m : Int) (w : World) (hm : n ≤ 1048576) (hn : es.length = n) (hr : SeesE w p es) :
    Calls Tryd.prog 38 #[.agg #[.int .i64 s, .slice p n c], .int .i64 m] w fun e' w' => e' = .returned (.int .i64 (modCode s es m)) ∧ Below w.heap.size w w' := by
  unfold modCode
  have Hn := hid hn
  have Hr := hid hr
  by_cases g : IsG s es
  · have G := hid g
    rw [if_pos g]
    clear hn hr g
    by_cases h1 : m < 2
    · rw [if_neg (fun h => by unfold okMod at h; omega)]
      have h1' : decide (m < 2) = true := by simpa using h1
      clear h1
      go_enter Tryd.func38, Tryd.ntmps38
      go_wp2_with fail
      refine (iIsGraph_any _ _ _ _ es _ hm Hn.out (Hr.out.on (on_alloc _ _))).mono ?_
      rw [decide_eq_true G.out]
      rintro e w2 ⟨rfl, hb2⟩
      have hB2 := bfrom (w := w) (by go_grown) hb2
      go_wp2
      go_ret
      exact ⟨rfl, hB2⟩
    · have h1' : decide (m < 2) = false := by simpa using h1
      by_cases h2 : 6 < m
      · rw [if_neg (fun h => by unfold okMod at h; omega)]
        have h2' : decide (6 < m) = true := by simpa using h2
        clear h1 h2
        go_enter Tryd.func38, Tryd.ntmps38
        go_wp2_with fail
        refine (iIsGraph_any _ _ _ _ es _ hm Hn.out (Hr.out.on (on_alloc _ _))).mono ?_
        rw [decide_eq_true G.out]
        rintro e w2 ⟨rfl, hb2⟩
        have hB2 := bfrom (w := w) (by go_grown) hb2
        go_wp2
        go_ret
        exact ⟨rfl, hB2⟩
      · rw [if_pos (show okMod m by unfold okMod; omega)]
        have h2' : decide (6 < m) = false := by simpa using h2
        clear h1 h2
        go_enter Tryd.func38, Tryd.ntmps38
        go_wp2_with fail
        refine (iIsGraph_any _ _ _ _ es _ hm Hn.out (Hr.out.on (on_alloc _ _))).mono ?_
        rw [decide_eq_true G.out]
        rintro e w2 ⟨rfl, hb2⟩
        have hB2 := bfrom (w := w) (by go_grown) hb2
        go_wp2
        go_ret
        exact ⟨rfl, hB2⟩
  · have G := hid g
    rw [if_neg g]
    clear hn hr g
    go_enter Tryd.func38, Tryd.ntmps38
    go_wp2_with fail
    refine (iIsGraph_any _ _ _ _ es _ hm Hn.out (Hr.out.on (on_alloc _ _))).mono ?_
    rw [decide_eq_false G.out]
    rintro e w2 ⟨rfl, hb2⟩
    have hB2 := bfrom (w := w) (by go_grown) hb2
    go_wp2
    go_ret
    exact ⟨rfl, hB2⟩

def lstsCode (es : List (Int × Int)) (lo up : Int) (k : Nat) (X : Nat → List Int) : Int := if ∀ i, i < k → lstCode es lo up (X i) = 0 then 0 else 2
def vlCode (s : Int) (es : List (Int × Int)) (m lo up : Int) (k : Nat) (X : Nat → List Int) : Int := if modCode s es m = 0 then lstsCode es lo up k X else modCode s es m

set_option maxRecDepth 100000 in
set_option maxHeartbeats 4000000 in
theorem iVals_no (s : Int) (p q : Option Addr) (n c k d : Nat) (es : List (Int × Int)) (m lo up : Int) (w : World) (hm : n ≤ 1048576) (hn : es.length = n) (hr : SeesE w p es) (h0 : ¬ modCode s es m = 0) :
    Calls Tryd.prog 27 #[.agg #[.int .i64 s, .slice p n c], .int .i64 m, .int .i64 lo, .int .i64 up, .slice q k d] w fun e' w' => e' = .returned (.int .i64 (modCode s es m)) ∧ Below w.heap.size w w' := by
  have Hn := hid hn
  have Hr := hid hr
  obtain ⟨r, hR⟩ : ∃ r, modCode s es m = r := ⟨_, rfl⟩
  rw [hR] at h0 ⊢
  have h0' : (r != 0) = true := by simpa using h0
  have HR := hid hR
  clear hn hr h0 hR
  go_enter Tryd.func27, Tryd.ntmps27
  go_wp2_with fail
  refine (iFCode_any _ _ _ _ es m _ hm Hn.out (Hr.out.on (on_alloc _ _))).mono ?_
  rw [HR.out]
  rintro e w2 ⟨rfl, hb2⟩
  have hB2 := bfrom (w := w) (by go_grown) hb2
  go_wp2
  go_ret
  exact ⟨rfl, hB2⟩

set_option maxRecDepth 100000 in
set_option maxHeartbeats 8000000 in
theorem iVals_yes (s : Int) (p : Option Addr) (n c lb off k d : Nat) (es : List (Int × Int)) (m lo up : Int) (P : Nat → Option Addr) (L C : Nat → Nat) (X : Nat → List Int) (w : World) (hm : n ≤ 1048576) (hn : es.length = n) (hr : SeesE w p es) (h0 : modCode s es m = 0) (hk2 : k ≤ 2) (hX : RowsI w lb off k P L C X) :
    Calls Tryd.prog 27 #[.agg #[.int .i64 s, .slice p n c], .int .i64 m, .int .i64 lo, .int .i64 up, .slice (some ⟨lb, off, none⟩) k d] w fun e' w' => e' = .returned (.int .i64 (lstsCode es lo up k X)) ∧ Below w.heap.size w w' := by
  have Hn := hid hn
  have Hr := hid hr
  have HX := hid hX
  have H0 := hid h0
  have hn3 : 0 < n := by have := (modCode_of h0).1.1.1; unfold okSize at this; omega
  obtain ⟨r, hR⟩ : ∃ r, r = lstsCode es lo up k X := ⟨_, rfl⟩
  rw [← hR]
  have HR := hid hR
  clear hn hr hX h0 hR
  go_enter Tryd.func27, Tryd.ntmps27
  go_wp2_with fail
  refine (iFCode_any _ _ _ _ es m _ hm Hn.out (Hr.out.on (on_alloc _ _))).mono ?_
  rw [H0.out]
  rintro e w2 ⟨rfl, hb2⟩
  have hX2 := (Box.new w s p n c 31).on hb2
  have hx1 := hX2.1
  have hx2 := hX2.2
  have hx3 := hX2.lt
  have HB2 := hid (bfrom (w := w) (by go_grown) hb2)
  clear hb2 hX2
  go_wp2
  go_loopw [22] (fun iv wr => ∃ i : Nat, i ≤ k ∧ iv = .int .i64 i ∧ Hid (∀ j, j < i → lstCode es lo up (X j) = 0) ∧ wr = w2) (fun iv _ => k - (intOf iv).toNat)
  case atStart => exact ⟨0, Nat.zero_le _, rfl, hid (fun j hj => by omega), rfl⟩
  case round =>
    obtain ⟨i, hi, rfl, hD, rfl⟩ := hrel
    by_cases hlt : i < k
    · obtain ⟨hc1, hl1, hm1, hs1⟩ := HX.out.on HB2.out i hlt
      obtain ⟨q, hq⟩ : ∃ q, P i = q := ⟨_, rfl⟩
      obtain ⟨l, hl⟩ : ∃ l, L i = l := ⟨_, rfl⟩
      obtain ⟨cc, hcc⟩ : ∃ cc, C i = cc := ⟨_, rfl⟩
      rw [hq, hl, hcc] at hc1
      rw [hl] at hl1 hm1
      rw [hq] at hs1
      have hbz := World.block_lt_of_cell? _ _ hc1
      have HL1 := hid hl1
      have HS1 := hid hs1
      have bad : lstCode es lo up (X i) ≠ 0 → r = 2 := fun h => by
        rw [HR.out, lstsCode, if_neg (fun hh => h (hh i hlt))]
      have HBad := hid bad
      clear hq hl hcc hl1 hs1 bad
      by_cases hln : l = n
      · subst hln
        have h1' : ((l : Int) != (l : Int)) = false := by simp
        obtain ⟨vb, vo, rfl, hrd⟩ : ∃ vb vo, q = some ⟨vb, vo, none⟩ ∧ ReadsI wr vb vo (X i) := by
          rcases HS1.out with h | h
          · have := HL1.out; rw [h] at this; simp at this; omega
          · exact h
        have HRd := hid hrd
        obtain ⟨a, ha⟩ : ∃ a, minU (X i) (l - 1) = a := ⟨_, rfl⟩
        obtain ⟨z, hz⟩ : ∃ z, maxU (X i) (l - 1) = z := ⟨_, rfl⟩
        have HA := hid ha
        have HZ := hid hz
        clear hrd ha hz
        by_cases g1 : a < lo
        · have g1' : decide (a < lo) = true := by simpa using g1
          have hv : lstCode es lo up (X i) ≠ 0 := fun h => by
            obtain ⟨j, hj, hx⟩ := (minU_low (X i) lo (l - 1)).1 (by rw [HA.out]; exact g1)
            have := ((lstCode_of h).2 j (by rw [HL1.out]; omega)).1
            omega
          have HR2 := hid (HBad.out hv)
          clear g1 hv
          go_wp2_with (go_at_call 39; refine (iMin_any vb vo l cc (X i) _ hn3 hm1 HL1.out HRd.out).mono ?_; rw [HA.out]; rintro e' w' ⟨rfl, rfl⟩)
          go_ret
          exact ⟨by rw [HR2.out]; rfl, HB2.out⟩
        · have g1' : decide (a < lo) = false := by simpa using g1
          by_cases g2 : up < z
          · have g2' : decide (up < z) = true := by simpa using g2
            have hv : lstCode es lo up (X i) ≠ 0 := fun h => by
              obtain ⟨j, hj, hx⟩ := (maxU_high (X i) up (l - 1)).1 (by rw [HZ.out]; exact g2)
              have := ((lstCode_of h).2 j (by rw [HL1.out]; omega)).2
              omega
            have HR2 := hid (HBad.out hv)
            clear g1 g2 hv
            go_wp2_with (first
              | (go_at_call 39; refine (iMin_any vb vo l cc (X i) _ hn3 hm1 HL1.out HRd.out).mono ?_; rw [HA.out]; rintro e' w' ⟨rfl, rfl⟩)
              | (go_at_call 40; refine (iMax_any vb vo l cc (X i) _ hn3 hm1 HL1.out HRd.out).mono ?_; rw [HZ.out]; rintro e' w' ⟨rfl, rfl⟩))
            go_ret
            exact ⟨by rw [HR2.out]; rfl, HB2.out⟩
          · have g2' : decide (up < z) = false := by simpa using g2
            have hvv : valsP lo up (X i) := fun j hj => by
              rw [HL1.out] at hj
              constructor
              · rcases Int.lt_or_le (eI (X i) j) lo with h | h
                · exact absurd ((minU_low (X i) lo (l - 1)).2 ⟨j, by omega, h⟩) (by rw [HA.out]; exact g1)
                · exact h
              · rcases Int.lt_or_le up (eI (X i) j) with h | h
                · exact absurd ((maxU_high (X i) up (l - 1)).2 ⟨j, by omega, h⟩) (by rw [HZ.out]; exact g2)
                · exact h
            have hv : lstCode es lo up (X i) = 0 := by rw [lstCode, if_pos ⟨by rw [HL1.out, Hn.out], hvv⟩]
            have HV := hid hv
            clear g1 g2 hv hvv
            go_wp2_with (first
              | (go_at_call 39; refine (iMin_any vb vo l cc (X i) _ hn3 hm1 HL1.out HRd.out).mono ?_; rw [HA.out]; rintro e' w' ⟨rfl, rfl⟩)
              | (go_at_call 40; refine (iMax_any vb vo l cc (X i) _ hn3 hm1 HL1.out HRd.out).mono ?_; rw [HZ.out]; rintro e' w' ⟨rfl, rfl⟩))
            go_roundw
            case rel =>
              refine ⟨i + 1, by omega, by go_num, hid (fun j hj => ?_), by trivial⟩
              rcases Nat.lt_or_ge j i with h | h
              · exact hD.out j h
              · obtain rfl : j = i := by omega
                exact HV.out
            case measure => simp [intOf]; omega
      · have h1' : ((l : Int) != (n : Int)) = true := by simp; omega
        have HR2 := hid (HBad.out (fun h => hln (by have := (lstCode_of h).1; have := HL1.out; have := Hn.out; omega)))
        clear hln
        go_wp2
        go_ret
        exact ⟨by rw [HR2.out]; rfl, HB2.out⟩
    · obtain rfl : i = k := by omega
      go_wp2
      go_ret
      refine ⟨?_, HB2.out⟩
      rw [HR.out, lstsCode, if_pos hD.out]
      rfl

end Go.Proofs.YthncgpbgffbpgaaDoor
