/- Circular colourings in the model: l08Apart, l08Numbers. -/
import Derived.Test.YtonlpihbpbnnmaaNearS
import Derived.Test.YtonlpihbpbnnmaaSpecC
import Derived.Deep.RegionWith
import Derived.StillTailTactics
import Derived.Deep.RegionHeld3
import Derived.Deep.RegionLaw
namespace Go.Proofs.Ytonlpihbpbnnmaa
open Go.RowKit

set_option maxRecDepth 100000 in
set_option maxHeartbeats 4000000 in
theorem sApart_any (k d x y : Int) (w : World) (hk : 0 ≤ k ∧ k ≤ 1000) (hd : 0 ≤ d ∧ d ≤ 1000) (hx : 0 ≤ x ∧ x ≤ 1000) (hy : 0 ≤ y ∧ y ≤ 1000) :
    Calls Try.prog 62 #[.int .i64 k, .int .i64 d, .int .i64 x, .int .i64 y] w fun e' w' => e' = .returned (.bool (apartB k d x y)) ∧ w = w' := by
  obtain ⟨z, hz⟩ : ∃ z, max x y - min x y = z := ⟨_, rfl⟩
  have hz2 : 0 ≤ z ∧ z ≤ 1000 := by omega
  obtain ⟨r, hr⟩ : ∃ r, apartB k d x y = r := ⟨_, rfl⟩
  rw [hr]
  have HR := hid (show (decide (d ≤ z) && decide (z ≤ k - d)) = r by rw [← hr, ← hz]; rfl)
  have HZ := hid (show (x ≤ y → z = y - x) ∧ (y ≤ x → z = x - y) by omega)
  clear hr hz
  go_enter Try.func62, Try.ntmps62
  go_wp2_with fail
  all_goals
    go_ret
    refine ⟨congrArg (fun b => Ending.returned (Value.bool b)) ?_, rfl⟩
    rw [← HR.out, Bool.eq_iff_iff]
    simp only [Bool.and_eq_true, decide_eq_true_eq, Bool.false_eq_true]
    first
      | (have hz3 := HZ.out.1 (by omega); first | omega | (simp only [false_iff]; omega))
      | (have hz3 := HZ.out.2 (by omega); first | omega | (simp only [false_iff]; omega))

set_option maxRecDepth 100000 in
set_option maxHeartbeats 4000000 in
theorem sNumbers_any (k d : Int) (w : World) :
    Calls Try.prog 60 #[.int .i64 k, .int .i64 d] w fun e' w' => e' = .returned (.bool (decide (circOk k d))) ∧ w = w' := by
  by_cases h1 : 2 ≤ k ∧ k ≤ 14
  · have hk0 : 0 ≤ k := by omega
    have hk1 : 2 ≤ k := h1.1
    have hk2 : k ≤ 14 := h1.2
    by_cases h2 : 1 ≤ d ∧ d ≤ k / 2
    · rw [decide_eq_true (show circOk k d from ⟨h1, h2⟩)]
      have H1 := hid h1
      have H2 := hid h2
      clear h1 h2
      go_enter Try.func60, Try.ntmps60
      go_wp2_with fail
      refine (sIn_yes _ _ _ _ H1.out).mono ?_
      rintro e' w' ⟨rfl, rfl⟩
      go_wp2_with fail
      refine (sIn_yes _ _ _ _ H2.out).mono ?_
      rintro e' w' ⟨rfl, rfl⟩
      go_wp2
      go_ret
      exact ⟨rfl, rfl⟩
    · rw [decide_eq_false (show ¬ circOk k d from fun h => h2 h.2)]
      have H1 := hid h1
      have H2 := hid (show d < 1 ∨ k / 2 < d by omega)
      clear h1 h2
      go_enter Try.func60, Try.ntmps60
      go_wp2_with fail
      refine (sIn_yes _ _ _ _ H1.out).mono ?_
      rintro e' w' ⟨rfl, rfl⟩
      go_wp2_with fail
      refine (sIn_no _ _ _ _ H2.out).mono ?_
      rintro e' w' ⟨rfl, rfl⟩
      go_wp2
      go_ret
      exact ⟨rfl, rfl⟩
  · rw [decide_eq_false (show ¬ circOk k d from fun h => h1 h.1)]
    have H1 := hid (show k < 2 ∨ 14 < k by omega)
    clear h1
    go_enter Try.func60, Try.ntmps60
    go_wp2_with (go_at_call 53; refine (sIn_no _ _ _ _ H1.out).mono ?_; rintro e' w' ⟨rfl, rfl⟩)
    go_ret
    exact ⟨rfl, rfl⟩

end Go.Proofs.Ytonlpihbpbnnmaa
