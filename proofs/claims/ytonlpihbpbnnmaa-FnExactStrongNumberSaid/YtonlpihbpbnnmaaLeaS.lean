/- The least number of colours in the model: l08Least. -/
import Derived.Test.YtonlpihbpbnnmaaFilS
import Derived.Test.YtonlpihbpbnnmaaLeaA
namespace Go.Proofs.Ytonlpihbpbnnmaa
open Go.RowKit

set_option maxRecDepth 100000 in
set_option maxHeartbeats 4000000 in
theorem sLeast_any (N g cap B : Nat) (bs : List Nat) (S : Nat → Nat → Bool) (w : World) (hN : 1 ≤ N ∧ N ≤ 50) (hbs : bs.length = N) (hO : OutB w g bs N) (hR : RowsB w B bs N S) :
    Calls Try.prog 81 #[.slice (some ⟨g, 0, none⟩) N cap] w fun e w' => e = .returned (.int .i64 (leastX S N)) ∧ Below w.heap.size w w' := by
  have HX := hid (leastX_spec (M := S) hN.1)
  obtain ⟨X, hX⟩ : ∃ X, leastX S N = X := ⟨_, rfl⟩
  rw [hX] at HX ⊢
  have Hbs := hid hbs
  have HO := hid hO
  have HR := hid hR
  clear hX hbs hO hR
  go_enter Try.func81, Try.ntmps81
  go_wp2
  go_loopw [3] (fun i wr => ∃ k : Nat, 1 ≤ k ∧ k ≤ X ∧ i = .int .i64 k ∧ Hid (Below w.heap.size w wr)) (fun i _ => X + 1 - (intOf i).toNat)
  case atStart => exact ⟨1, Nat.le_refl _, HX.out.1.1, rfl, hid (Below.refl _ _)⟩
  case round =>
    obtain ⟨k, hk1, hk, rfl, hB⟩ := hrel
    obtain ⟨wi, rfl⟩ : ∃ wi : World, wi = wr := ⟨_, rfl⟩
    have hXN : X ≤ N := HX.out.1.2
    have HBe := hid (bfrom hB.out (on_alloc wi (.cells #[] 2)))
    have HOe := hid (show OwnI (wi.alloc (.cells #[] 2)) wi.heap.size 0 [] from ⟨_, heap_alloc_new wi _, rfl, by simp, by unfold maxLen; omega, fun i hi => absurd hi (by simp)⟩)
    go_wp2_with fail
    obtain ⟨w3, hw3⟩ : ∃ w3, w3 = wi.alloc (.cells #[] 2) := ⟨_, rfl⟩
    rw [← hw3] at HBe HOe ⊢
    clear hw3
    refine (sFill_any k N g cap B bs S w (by omega) hN.2 Hbs.out HO.out HR.out N [] 0 wi.heap.size 0 w3 rfl (by omega) (suit_nil _ _ _) HBe.out HOe.out).mono ?_
    by_cases hkX : k = X
    · have HT := hid (show (srch k 1 S N []).isSome = true by rw [hkX]; exact HX.out.2.1)
      rw [HT.out]
      rintro e' w4 ⟨rfl, hb4⟩
      have HB4 := hid (bfrom HBe.out hb4)
      have HKX := hid hkX
      clear hb4 hkX
      go_wp2
      go_ret
      rw [← HKX.out]
      exact ⟨rfl, HB4.out⟩
    · have HT := hid (show (srch k 1 S N []).isSome = false from HX.out.2.2 k hk1 (by omega))
      rw [HT.out]
      rintro e' w4 ⟨rfl, hb4⟩
      have HB4 := hid (bfrom HBe.out hb4)
      clear hb4
      go_wp2
      go_roundw
      case rel => exact ⟨k + 1, by omega, by omega, by go_num, HB4⟩
      case measure => simp [intOf]; omega

end Go.Proofs.Ytonlpihbpbnnmaa
