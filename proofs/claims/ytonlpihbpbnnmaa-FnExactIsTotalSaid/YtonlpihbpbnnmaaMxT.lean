/- Lists with different numbers where a square of marks tells, in the model: l08Proper. -/
import Derived.Test.YtonlpihbpbnnmaaMxS
import Derived.Test.YtonlpihbpbnnmaaSpecC
namespace Go.Proofs.Ytonlpihbpbnnmaa
open Go.RowKit

set_option maxRecDepth 100000 in
set_option maxHeartbeats 8000000 in
theorem sProper_any (k : Int) (g cap B n c : Nat) (bs : List Nat) (S : Nat → Nat → Bool) (q : Option Addr) (xs : List Int) (w : World) (hk : 1 ≤ k ∧ k ≤ 1000) (hx : xs.length = n) (hn : n ≤ 60) (h1n : 1 ≤ n) (hbs : bs.length = n) (hO : OutB w g bs n) (hR : RowsB w B bs n S) (hr : SeesI w q xs) :
    Calls Try.prog 66 #[.slice (some ⟨g, 0, none⟩) n cap, .int .i64 k, .slice q n c] w fun e' w' => e' = .returned (.bool (decide (suitP k 1 S xs))) ∧ Below w.heap.size w w' := by
  obtain ⟨b, off, rfl, hrd⟩ : ∃ b off, q = some ⟨b, off, none⟩ ∧ ReadsI w b off xs := by
    rcases hr with h | h
    · rw [h] at hx; simp at hx; omega
    · exact h
  obtain ⟨r, hRr⟩ : ∃ r, decide (suitP k 1 S xs) = r := ⟨_, rfl⟩
  rw [hRr]
  have HRr := hid hRr
  have Hx := hid hx
  have Hbs := hid hbs
  have HO := hid hO
  have HR := hid hR
  have Hrd := hid hrd
  clear hRr hx hbs hO hR hr hrd
  go_enter Try.func66, Try.ntmps66
  go_wp2
  go_loopw [7] (fun i wr => ∃ e : Nat, e ≤ n ∧ i = .int .i64 e ∧ Hid (∀ t, t < e → (0 ≤ eI xs t ∧ eI xs t < k) ∧ fitB k 1 S xs t (eI xs t) = true) ∧ Hid (Below w.heap.size w wr)) (fun i _ => n - (intOf i).toNat)
  case atStart => exact ⟨0, Nat.zero_le _, rfl, hid (fun t ht => absurd ht (by omega)), hid (Below.refl _ _)⟩
  case round =>
    obtain ⟨e, he, rfl, hE, hB⟩ := hrel
    obtain ⟨wi, rfl⟩ : ∃ wi : World, wi = wr := ⟨_, rfl⟩
    by_cases hlt : e < n
    · have hlt' : (e : Int) < (n : Int) := by omega
      have k1 := Hrd.out.on hB.out e (by rw [Hx.out]; exact hlt)
      obtain ⟨x, hx⟩ : ∃ x, eI xs e = x := ⟨_, rfl⟩
      rw [hx] at k1
      have HXX := hid hx
      clear hx
      by_cases hin : 0 ≤ x ∧ x ≤ k - 1
      · have Hin := hid hin
        clear hin
        go_wp2_with (go_at_call 53; refine (sIn_yes _ _ _ _ Hin.out).mono ?_; rintro e' w' ⟨rfl, rfl⟩)
        clear k1
        go_loopw [8] (fun i wx => ∃ f : Nat, f ≤ e ∧ i = .int .i64 f ∧ Hid (∀ t, t < f → S e t = true → apartB k 1 x (eI xs t) = true) ∧ Hid (Below w.heap.size w wx)) (fun i _ => e - (intOf i).toNat)
        case atStart => exact ⟨0, Nat.zero_le _, rfl, hid (fun t ht => absurd ht (by omega)), hB⟩
        case round =>
          obtain ⟨f, hf, rfl, hF, hBx⟩ := hrel
          obtain ⟨wx, rfl⟩ : ∃ wx : World, wx = wr := ⟨_, rfl⟩
          by_cases hlf : f < e
          · have hlf' : (f : Int) < (e : Int) := by omega
            have hfn : (f : Int) < (n : Int) := by omega
            have k1 := Hrd.out.on hBx.out e (by rw [Hx.out]; exact hlt)
            have k2 := Hrd.out.on hBx.out f (by rw [Hx.out]; omega)
            rw [HXX.out] at k1
            obtain ⟨y, hy⟩ : ∃ y, eI xs f = y := ⟨_, rfl⟩
            have hy2 := (hE.out f hlf).1
            rw [hy] at k2 hy2
            have HYY := hid hy
            have c1 := (HO.out.on hBx.out).cell (i := e) (by rw [Hbs.out]; exact hlt)
            have c2 := (HR.out.on hBx.out).cell (i := e) (j := f) (by rw [Hbs.out]; exact hlt) (by omega)
            obtain ⟨be, hbe⟩ : ∃ be, bN bs e = be := ⟨_, rfl⟩
            rw [hbe] at c1 c2
            have HAP := hid (apart_one (k := k) (x := x) (y := y) (by have := Hin.out; omega) hy2)
            clear hy hbe
            cases hS : S e f
            · rw [hS] at c2
              have c3 : wx.cell? ⟨be, f, none⟩ = some (.int .i64 0) := c2
              clear c2
              go_wp2
              go_quiet (fail)
              go_wp2
              go_roundw
              case rel =>
                refine ⟨f + 1, by omega, by go_num, hid (fun t ht => ?_), hid (bdn.2 hBx.out)⟩
                rcases Nat.lt_or_ge t f with h | h
                · exact hF.out t h
                · obtain rfl : t = f := by omega
                  rw [hS]
                  exact fun h => by cases h
              case measure => simp [intOf]; omega
            · rw [hS] at c2
              have c3 : wx.cell? ⟨be, f, none⟩ = some (.int .i64 1) := c2
              clear c2
              cases hxy : (x == y)
              · go_wp2
                go_quiet (fail)
                go_wp2
                go_roundw
                case rel =>
                  refine ⟨f + 1, by omega, by go_num, hid (fun t ht => ?_), hid (bdn.2 hBx.out)⟩
                  rcases Nat.lt_or_ge t f with h | h
                  · exact hF.out t h
                  · obtain rfl : t = f := by omega
                    rw [HYY.out, HAP.out, hxy]
                    exact fun _ => rfl
                case measure => simp [intOf]; omega
              · have HFF := hid (show r = false by
                  rw [← HRr.out]
                  exact decide_eq_false (fun h => by
                    have h1 := h.2 e (by rw [Hx.out]; exact hlt) f hlf hS
                    rw [HXX.out, HYY.out, HAP.out, hxy] at h1
                    cases h1))
                go_wp2
                go_quiet (fail)
                go_wp2
                go_ret
                rw [HFF.out]
                exact ⟨rfl, bdn.2 hBx.out⟩
          · have hfe := hid (show f = e by omega)
            go_wp2
            go_roundw
            case rel =>
              refine ⟨e + 1, by omega, by go_num, hid (fun t ht => ?_), hBx⟩
              rcases Nat.lt_or_ge t e with h | h
              · exact hE.out t h
              · obtain rfl : t = e := by omega
                rw [HXX.out]
                refine ⟨by have := Hin.out; omega, ?_⟩
                unfold fitB
                exact decide_eq_true (fun t ht => hF.out t (by rw [hfe.out]; exact ht))
            case measure => simp [intOf]; omega
      · have Hin := hid (show x < 0 ∨ k - 1 < x by omega)
        have HFF := hid (show r = false by
          rw [← HRr.out]
          exact decide_eq_false (fun h => by
            have h1 := h.1 e (by rw [Hx.out]; exact hlt)
            rw [HXX.out] at h1
            omega))
        clear hin
        go_wp2_with (go_at_call 53; refine (sIn_no _ _ _ _ Hin.out).mono ?_; rintro e' w' ⟨rfl, rfl⟩)
        go_ret
        rw [HFF.out]
        exact ⟨rfl, hB.out⟩
    · have hen := hid (show e = n by omega)
      have HFF := hid (show r = true by
        rw [← HRr.out]
        exact decide_eq_true (suit_fit.2 ⟨fun i hi => (hE.out i (by rw [hen.out, ← Hx.out]; exact hi)).1, fun i hi => (hE.out i (by rw [hen.out, ← Hx.out]; exact hi)).2⟩))
      go_wp2
      go_ret
      rw [HFF.out]
      exact ⟨rfl, hB.out⟩

end Go.Proofs.Ytonlpihbpbnnmaa
