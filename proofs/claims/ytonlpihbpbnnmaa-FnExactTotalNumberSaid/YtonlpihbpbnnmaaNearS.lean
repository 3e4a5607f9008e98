/- Near and close edges in the model: l08Near, l08Close. -/
import Derived.Test.YtonlpihbpbnnmaaNearA
import Derived.Test.YtonlpihbpbnnmaaLawsF
import Derived.BigRegion
namespace Go.Proofs.Ytonlpihbpbnnmaa
open Go.RowKit

set_option maxRecDepth 100000 in
set_option maxHeartbeats 4000000 in
theorem sNear_any (s : Int) (b off n c E F : Nat) (es : List (Int × Int)) (w : World) (hn : es.length = n) (hm : n ≤ 30) (hr : ReadsE w b off es) (hE : E < n) (hF : F < n) :
    Calls Try.prog 61 #[.agg #[.int .i64 s, .slice (some ⟨b, off, none⟩) n c], .int .i64 E, .int .i64 F] w fun e' w' => e' = .returned (.bool (nearB es E F)) ∧ Below w.heap.size w w' := by
  have hbl : b < w.heap.size := reads_lt hr (by omega)
  obtain ⟨h1, h2⟩ := hr E (by omega)
  obtain ⟨h3, h4⟩ := hr F (by omega)
  obtain ⟨a0, ha0⟩ : ∃ a0, eA es E = a0 := ⟨_, rfl⟩
  obtain ⟨a1, ha1⟩ : ∃ a1, eB es E = a1 := ⟨_, rfl⟩
  obtain ⟨b0, hb0⟩ : ∃ b0, eA es F = b0 := ⟨_, rfl⟩
  obtain ⟨b1, hb1⟩ : ∃ b1, eB es F = b1 := ⟨_, rfl⟩
  obtain ⟨r, hR⟩ : ∃ r, nearB es E F = r := ⟨_, rfl⟩
  rw [hR]
  have HR := hid (show (a0 == b0 || a0 == b1 || a1 == b0 || a1 == b1) = r by rw [← ha0, ← ha1, ← hb0, ← hb1]; exact hR)
  rw [ha0] at h1
  rw [ha1] at h2
  rw [hb0] at h3
  rw [hb1] at h4
  have hE' : (E : Int) < (n : Int) := by omega
  have hF' : (F : Int) < (n : Int) := by omega
  clear hn hr hR ha0 ha1 hb0 hb1
  have hl1 : b ≤ w.heap.size := by omega
  have hl2 : b ≤ w.heap.size + 1 := by omega
  have hl3 : b < w.heap.size + 1 := by omega
  have hl4 : b < w.heap.size + 1 + 1 := by omega
  have hl5 : b < w.heap.size + 1 + 1 + 1 := by omega
  go_enter Try.func61, Try.ntmps61
  go_wp2
  go_region
  all_goals
    cases g1 : a0 == b0 <;> cases g2 : a0 == b1 <;> cases g3 : a1 == b0 <;> cases g4 : a1 == b1
  all_goals
    go_wp2
    go_ret
    refine ⟨?_, ?_⟩
    · rw [← HR.out, g1, g2, g3, g4]; rfl
    · have := Below.refl w.heap.size w
      go_grown

set_option maxRecDepth 100000 in
set_option maxHeartbeats 4000000 in
theorem sClose_any (s : Int) (b off n c E F : Nat) (es : List (Int × Int)) (w : World) (hn : es.length = n) (hm : n ≤ 30) (hr : ReadsE w b off es) (hE : E < n) (hF : F < n) :
    Calls Try.prog 54 #[.agg #[.int .i64 s, .slice (some ⟨b, off, none⟩) n c], .int .i64 E, .int .i64 F] w fun e' w' => e' = .returned (.bool (closeB es E F)) ∧ Below w.heap.size w w' := by
  have Hn := hid hn
  have Hr := hid hr
  obtain ⟨r, hR⟩ : ∃ r, closeB es E F = r := ⟨_, rfl⟩
  rw [hR]
  have HR := hid hR
  clear hn hr hR
  have HX := hid (Box.new w s (some ⟨b, off, none⟩) n c 30)
  have HB1 := hid (on_alloc w (.cells #[.int .i64 s, .slice (some ⟨b, off, none⟩) n c] 30))
  cases g0 : nearB es E F
  · go_enter Try.func54, Try.ntmps54
    go_wp2_with fail
    refine (sNear_any s b off n c E F es _ Hn.out hm (Hr.out.on HB1.out) hE hF).mono ?_
    rw [g0]
    rintro e' w2 ⟨rfl, hb2⟩
    have HB2 := hid (bfrom HB1.out hb2)
    have HX2 := hid (HX.out.on hb2)
    clear hb2
    go_wp2
    go_loopw [7] (fun i wr => ∃ k : Nat, k ≤ n ∧ i = .int .i64 k ∧ Hid (∀ j, j < k → ¬ (nearB es E j = true ∧ nearB es F j = true)) ∧ Hid (Below w2.heap.size w2 wr)) (fun i _ => n - (intOf i).toNat)
    case atStart => exact ⟨0, Nat.zero_le _, rfl, hid (fun j hj => by omega), hid (Below.refl _ _)⟩
    case round =>
      obtain ⟨k, hk, rfl, hE', hB⟩ := hrel
      have HXr := hid (HX2.out.on hB.out)
      have hxr := HXr.out.1
      have hyr := HXr.out.2
      have hzr := HXr.out.lt
      have HBr := hid (bfrom HB2.out hB.out)
      obtain ⟨wi, rfl⟩ : ∃ wi : World, wi = wr := ⟨_, rfl⟩
      by_cases hlt : k < n
      · have hlt' : (k : Int) < (n : Int) := by omega
        cases g1 : nearB es E k
        · go_wp2_with fail
          refine (sNear_any s b off n c E k es _ Hn.out hm (Hr.out.on HBr.out) hE hlt).mono ?_
          rw [g1]
          rintro e' w3 ⟨rfl, hb3⟩
          have HB3 := hid (bfrom hB.out hb3)
          clear hb3
          go_wp2
          go_roundw
          case rel =>
            refine ⟨k + 1, by omega, by go_num, hid (fun j hj => ?_), HB3⟩
            rcases Nat.lt_or_ge j k with h | h
            · exact hE'.out j h
            · obtain rfl : j = k := by omega
              rw [g1]
              exact fun h => by cases h.1
          case measure => simp [intOf]; omega
        · go_wp2_with fail
          refine (sNear_any s b off n c E k es _ Hn.out hm (Hr.out.on HBr.out) hE hlt).mono ?_
          rw [g1]
          rintro e' w3 ⟨rfl, hb3⟩
          have HB3 := hid (bfrom hB.out hb3)
          have HBw3 := hid (bfrom HBr.out hb3)
          have HX3 := HXr.out.on hb3
          have hx3 := HX3.1
          have hy3 := HX3.2
          have hz3 := HX3.lt
          clear hb3 HX3 hxr hyr
          go_wp2_with fail
          refine (sNear_any s b off n c F k es _ Hn.out hm (Hr.out.on HBw3.out) hF hlt).mono ?_
          cases g2 : nearB es F k
          · rintro e' w4 ⟨rfl, hb4⟩
            have HB4 := hid (bfrom HB3.out hb4)
            clear hb4
            go_wp2
            go_roundw
            case rel =>
              refine ⟨k + 1, by omega, by go_num, hid (fun j hj => ?_), HB4⟩
              rcases Nat.lt_or_ge j k with h | h
              · exact hE'.out j h
              · obtain rfl : j = k := by omega
                rw [g2]
                exact fun h => by cases h.2
            case measure => simp [intOf]; omega
          · have HT := hid (show r = true by
              rw [← HR.out]
              exact decide_eq_true ⟨k, by rw [Hn.out]; exact hlt, by rw [nearB_comm]; exact g1, by rw [nearB_comm]; exact g2⟩)
            rintro e' w4 ⟨rfl, hb4⟩
            have HB4 := hid (bfrom HBw3.out hb4)
            clear hb4
            go_wp2
            go_ret
            rw [HT.out]
            exact ⟨rfl, HB4.out⟩
      · have HT := hid (show r = false by
          rw [← HR.out]
          exact decide_eq_false (fun ⟨h, h1, h2, h3⟩ => hE'.out h (by rw [Hn.out] at h1; omega) ⟨by rw [nearB_comm]; exact h2, by rw [nearB_comm]; exact h3⟩))
        go_wp2
        go_ret
        rw [HT.out]
        exact ⟨rfl, HBr.out⟩
  · have HT := hid (show r = true by
      rw [← HR.out]
      exact decide_eq_true (close_near (by rw [Hn.out]; exact hE) g0))
    go_enter Try.func54, Try.ntmps54
    go_wp2_with fail
    refine (sNear_any s b off n c E F es _ Hn.out hm (Hr.out.on HB1.out) hE hF).mono ?_
    rw [g0]
    rintro e' w2 ⟨rfl, hb2⟩
    have HB2 := hid (bfrom HB1.out hb2)
    clear hb2
    go_wp2
    go_ret
    rw [HT.out]
    exact ⟨rfl, HB2.out⟩

end Go.Proofs.Ytonlpihbpbnnmaa
