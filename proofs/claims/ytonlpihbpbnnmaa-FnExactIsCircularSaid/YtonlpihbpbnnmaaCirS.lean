/- Circular colourings in the model: IsCircular. -/
import Derived.Test.YtonlpihbpbnnmaaCirU
import Derived.Test.YtonlpihbpbnnmaaTwoStill
namespace Go.Proofs.Ytonlpihbpbnnmaa
open Go.RowKit

attribute [local irreducible] wpStill

set_option maxRecDepth 100000 in
set_option maxHeartbeats 8000000 in
theorem sIsCircular_yes (s k d : Int) (b off n c mc : Nat) (p : Option Addr) (es : List (Int × Int)) (xs : List Int) (w : World) (hn : es.length = n) (hr : ReadsE w b off es) (g : IsG s es) (hx : xs.length = n) (hrx : SeesI w p xs) (hkd : circOk k d) :
    Calls Try.prog 20 #[.agg #[.int .i64 s, .slice (some ⟨b, off, none⟩) n c], .int .i64 k, .int .i64 d, .slice p n mc] w fun e' w' => e' = .returned (.tuple #[.bool (decide (suitP k d (nearB es) xs)), .int .i64 0]) ∧ Below w.heap.size w w' := by
  have hn30 : n ≤ 30 := by have := isG_len g; omega
  have h1n : 1 ≤ n := by have := g.1.1.2.2.2; have := g.1.1.1; omega
  have hk1 : 0 ≤ k ∧ k ≤ 1000 := by have := hkd.1; omega
  have hd1 : 0 ≤ d ∧ d ≤ 1000 := by have := hkd.1; have := hkd.2; omega
  obtain ⟨bq, oq, rfl, hrd⟩ : ∃ b off, p = some ⟨b, off, none⟩ ∧ ReadsI w b off xs := by
    rcases hrx with h | h
    · rw [h] at hx; simp at hx; omega
    · exact h
  obtain ⟨r, hR⟩ : ∃ r, decide (suitP k d (nearB es) xs) = r := ⟨_, rfl⟩
  rw [hR]
  have HR := hid hR
  have Hn := hid hn
  have Hr := hid hr
  have G := hid g
  have Hx := hid hx
  have Hrd := hid hrd
  have HKD := hid (show decide (circOk k d) = true from decide_eq_true hkd)
  clear hR hn hr g hx hrx hrd hkd
  go_enter Try.func20, Try.ntmps20
  go_wp2_with fail
  refine (sIs_any _ _ _ _ es _ (by omega) Hn.out (SeesE.on (.inr ⟨b, off, rfl, Hr.out⟩) (on_alloc _ _))).mono ?_
  rw [decide_eq_true G.out]
  rintro e' w2 ⟨rfl, hb2⟩
  have HB2 := hid (bfrom (w := w) (on_alloc _ _) hb2)
  have HX2 := hid ((Box.new w s (some ⟨b, off, none⟩) n c 30).on hb2)
  have hx2 := HX2.out.1
  have hy2 := HX2.out.2
  have hz2 := HX2.out.lt
  clear hb2
  go_wp2_with (go_at_call 60; refine (sNumbers_any k d _).mono ?_; rw [HKD.out]; rintro e' w' ⟨rfl, rfl⟩)
  clear hx2 hy2 hz2
  go_loopw [10] (fun i wr => ∃ e : Nat, e ≤ n ∧ i = .int .i64 e ∧ Hid (∀ t, t < e → (0 ≤ eI xs t ∧ eI xs t < k) ∧ fitB k d (nearB es) xs t (eI xs t) = true) ∧ Hid (Below w2.heap.size w2 wr)) (fun i _ => n - (intOf i).toNat)
  case atStart => exact ⟨0, Nat.zero_le _, rfl, hid (fun t ht => absurd ht (by omega)), hid (Below.refl _ _)⟩
  case round =>
    obtain ⟨e, he, rfl, hE, hB⟩ := hrel
    have HBw := hid (bfrom HB2.out hB.out)
    obtain ⟨wi, rfl⟩ : ∃ wi : World, wi = wr := ⟨_, rfl⟩
    by_cases hlt : e < n
    · have hlt' : (e : Int) < (n : Int) := by omega
      have k1 := Hrd.out.on HBw.out e (by rw [Hx.out]; exact hlt)
      obtain ⟨x, hx⟩ : ∃ x, eI xs e = x := ⟨_, rfl⟩
      rw [hx] at k1
      have HXX := hid hx
      clear hx
      by_cases hin : 0 ≤ x ∧ x ≤ k - 1
      · have Hin := hid hin
        have hx3 : 0 ≤ x ∧ x ≤ 1000 := by omega
        clear hin
        go_wp2_with (go_at_call 53; refine (sIn_yes _ _ _ _ Hin.out).mono ?_; rintro e' w' ⟨rfl, rfl⟩)
        clear k1
        go_loopw [11] (fun i wx => ∃ f : Nat, f ≤ e ∧ i = .int .i64 f ∧ Hid (∀ t, t < f → nearB es e t = true → apartB k d x (eI xs t) = true) ∧ Hid (Below w2.heap.size w2 wx)) (fun i _ => e - (intOf i).toNat)
        case atStart => exact ⟨0, Nat.zero_le _, rfl, hid (fun t ht => absurd ht (by omega)), hB⟩
        case round =>
          obtain ⟨f, hf, rfl, hF, hB2⟩ := hrel
          have HBx := hid (bfrom HB2.out hB2.out)
          obtain ⟨wx, rfl⟩ : ∃ wx : World, wx = wr := ⟨_, rfl⟩
          have HXr := hid (HX2.out.on hB2.out)
          have hxr := HXr.out.1
          have hyr := HXr.out.2
          have hzr := HXr.out.lt
          have k1 := Hrd.out.on HBx.out e (by rw [Hx.out]; exact hlt)
          rw [HXX.out] at k1
          by_cases hlf : f < e
          · have hlf' : (f : Int) < (e : Int) := by omega
            have hfn : (f : Int) < (n : Int) := by omega
            have k2 := Hrd.out.on HBx.out f (by rw [Hx.out]; omega)
            obtain ⟨y, hy⟩ : ∃ y, eI xs f = y := ⟨_, rfl⟩
            rw [hy] at k2
            have HYY := hid hy
            have hy3 : 0 ≤ y ∧ y ≤ 1000 := by have := (hE.out f hlf).1; omega
            have hbq := World.block_lt_of_cell? wx _ k1
            dsimp only at hbq
            have HK1 := hid k1
            have HK2 := hid k2
            clear hy
            cases g1 : nearB es e f
            · go_wp2
              refine wp_region_two 3 2 17 (by kernel_rfl) (by kernel_rfl) ?_
              simp only [Nat.reduceAdd, Nat.reduceSub, List.take_succ_cons, List.take_zero, List.drop_succ_cons, List.drop_zero]
              repeat still_step
              refine wpStill_nil ?_
              go_wp2_with fail
              refine (sNear_any s b off n c e f es _ Hn.out hn30 (Hr.out.on (bfrom HBx.out (by first | exact Below.refl _ _ | exact (Below.refl _ _).drew))) hlt (by omega)).mono ?_
              rw [g1]
              rintro e' w5 ⟨rfl, hb5⟩
              go_wp2_with fail
              repeat still_step
              refine wpStill_nil ?_
              all_goals
                have HB5 := hid (show Below w2.heap.size w2 w5 from bfrom hB2.out ⟨hb5.os, hb5.tape, hb5.output, hb5.size, hb5.block⟩)
                clear hb5
                go_wp2
                go_roundw
                case rel =>
                  refine ⟨f + 1, by omega, by go_num, hid (fun t ht => ?_), by first | exact HB5 | exact hid (bdn.mpr HB5.out)⟩
                  rcases Nat.lt_or_ge t f with h | h
                  · exact hF.out t h
                  · obtain rfl : t = f := by omega
                    rw [g1]
                    exact fun h => by cases h
                case measure => simp [intOf]; omega
            · cases g2 : apartB k d x y
              · have HFF := hid (show r = false by
                  rw [← HR.out]
                  exact decide_eq_false (fun h => by
                    have h1 := h.2 e (by rw [Hx.out]; exact hlt) f hlf g1
                    rw [HXX.out, HYY.out, g2] at h1
                    cases h1))
                go_wp2
                refine wp_region_two 3 2 15 (by kernel_rfl) (by kernel_rfl) ?_
                simp only [Nat.reduceAdd, Nat.reduceSub, List.take_succ_cons, List.take_zero, List.drop_succ_cons, List.drop_zero]
                repeat still_step
                refine wpStill_nil ?_
                go_wp2_with fail
                refine (sNear_any s b off n c e f es _ Hn.out hn30 (Hr.out.on (bfrom HBx.out (by first | exact Below.refl _ _ | exact (Below.refl _ _).drew))) hlt (by omega)).mono ?_
                rw [g1]
                rintro e' w5 ⟨rfl, hb5⟩
                have q1 := (hb5.cell (p := ⟨bq, oq + e, none⟩) hbq).trans HK1.out
                have q2 := (hb5.cell (p := ⟨bq, oq + f, none⟩) hbq).trans HK2.out
                have q3 : bq < w5.heap.size := Nat.lt_of_lt_of_le hbq hb5.size
                go_wp2_with fail
                repeat still_step
                refine wpStill_nil ?_
                go_wp2_with fail
                refine (sApart_any k d x y _ hk1 hd1 hx3 hy3).mono ?_
                rw [g2]
                rintro e' w' ⟨rfl, rfl⟩
                all_goals
                  have HB5 := hid (show Below w2.heap.size w2 w5 from bfrom hB2.out ⟨hb5.os, hb5.tape, hb5.output, hb5.size, hb5.block⟩)
                  clear hb5
                  go_wp2
                  go_ret2
                  rw [HFF.out]
                  exact ⟨rfl, by first | exact bfrom HB2.out HB5.out | exact bdn.mpr (bfrom HB2.out HB5.out)⟩
              · go_wp2
                refine wp_region_two 3 2 15 (by kernel_rfl) (by kernel_rfl) ?_
                simp only [Nat.reduceAdd, Nat.reduceSub, List.take_succ_cons, List.take_zero, List.drop_succ_cons, List.drop_zero]
                repeat still_step
                refine wpStill_nil ?_
                go_wp2_with fail
                refine (sNear_any s b off n c e f es _ Hn.out hn30 (Hr.out.on (bfrom HBx.out (by first | exact Below.refl _ _ | exact (Below.refl _ _).drew))) hlt (by omega)).mono ?_
                rw [g1]
                rintro e' w5 ⟨rfl, hb5⟩
                have q1 := (hb5.cell (p := ⟨bq, oq + e, none⟩) hbq).trans HK1.out
                have q2 := (hb5.cell (p := ⟨bq, oq + f, none⟩) hbq).trans HK2.out
                have q3 : bq < w5.heap.size := Nat.lt_of_lt_of_le hbq hb5.size
                go_wp2_with fail
                repeat still_step
                refine wpStill_nil ?_
                go_wp2_with fail
                refine (sApart_any k d x y _ hk1 hd1 hx3 hy3).mono ?_
                rw [g2]
                rintro e' w' ⟨rfl, rfl⟩
                all_goals
                  have HB5 := hid (show Below w2.heap.size w2 w5 from bfrom hB2.out ⟨hb5.os, hb5.tape, hb5.output, hb5.size, hb5.block⟩)
                  clear hb5
                  go_wp2
                  go_roundw
                  case rel =>
                    refine ⟨f + 1, by omega, by go_num, hid (fun t ht => ?_), by first | exact HB5 | exact hid (bdn.mpr HB5.out)⟩
                    rcases Nat.lt_or_ge t f with h | h
                    · exact hF.out t h
                    · obtain rfl : t = f := by omega
                      rw [HYY.out, g2]
                      exact fun _ => rfl
                  case measure => simp [intOf]; omega
          · have hfe := hid (show f = e by omega)
            go_wp2
            go_roundw
            case rel =>
              refine ⟨e + 1, by omega, by go_num, hid (fun t ht => ?_), hB2⟩
              rcases Nat.lt_or_ge t e with h | h
              · exact hE.out t h
              · obtain rfl : t = e := by omega
                rw [HXX.out]
                refine ⟨by have := Hin.out; omega, ?_⟩
                unfold fitB
                exact decide_eq_true (fun t ht => hF.out t (by rw [hfe.out]; exact ht))
            case measure => simp [intOf]; omega
      · have Hin := hid (show x < 0 ∨ k - 1 < x by omega)
        have HFF := hid (show r = false by
          rw [← HR.out]
          exact decide_eq_false (fun h => by
            have h1 := h.1 e (by rw [Hx.out]; exact hlt)
            rw [HXX.out] at h1
            omega))
        clear hin
        go_wp2_with (go_at_call 53; refine (sIn_no _ _ _ _ Hin.out).mono ?_; rintro e' w' ⟨rfl, rfl⟩)
        go_ret2
        rw [HFF.out]
        exact ⟨rfl, HBw.out⟩
    · have hen := hid (show e = n by omega)
      have HFF := hid (show r = true by
        rw [← HR.out]
        exact decide_eq_true (suit_fit.2 ⟨fun i hi => (hE.out i (by rw [hen.out, ← Hx.out]; exact hi)).1, fun i hi => (hE.out i (by rw [hen.out, ← Hx.out]; exact hi)).2⟩))
      go_wp2
      go_ret2
      rw [HFF.out]
      exact ⟨rfl, HBw.out⟩

end Go.Proofs.Ytonlpihbpbnnmaa
