/- Near and close edges in the model: l08Near, l08Close. -/
import Derived.Test.YtfdlhdgmbjdhbaaNearA
import Derived.Test.YtfdlhdgmbjdhbaaLawsF
import Derived.BigRegion
namespace Go.Proofs.Ytfdlhdgmbjdhbaa
open Go.RowKit

set_option maxRecDepth 100000 in
set_option maxHeartbeats 4000000 in
theorem sNear_any (s : Int) (b off n c E F : Nat) (es : List (Int × Int)) (w : World) (hn : es.length = n) (hm : n ≤ 30) (hr : ReadsE w b off es) (hE : E < n) (hF : F < n) :
    Calls Try.prog 29 #[.agg #[.int .i64 s, .slice (some ⟨b, off, none⟩) n c], .int .i64 E, .int .i64 F] w fun e' w' => e' = .returned (.bool (nearB es E F)) ∧ Below w.heap.size w w' := by
  have hbl : b < w.heap.size := reads_lt hr (by omega)
  obtain ⟨h1, h2⟩ := hr E (by omega)
  obtain ⟨h3, h4⟩ := hr F (by omega)
  obtain ⟨a0, ha0⟩ : ∃ a0, eA es E = a0 := ⟨_, rfl⟩
  obtain ⟨a1, ha1⟩ : ∃ a1, eB es E = a1 := ⟨_, rfl⟩
  obtain ⟨b0, hb0⟩ : ∃ b0, eA es F = b0 := ⟨_, rfl⟩
  obtain ⟨b1, hb1⟩ : ∃ b1, eB es F = b1 := ⟨_, rfl⟩
  obtain ⟨r, hR⟩ : ∃ r, nearB es E F = r := ⟨_, rfl⟩
  rw [hR]
  have HR := hid (show (a0 == b0 || a0 == b1 || a1 == b0 || a1 == b1) = r by rw [← ha0, ← ha1, ← hb0, ← hb1]; exact hR)
  rw [ha0] at h1
  rw [ha1] at h2
  rw [hb0] at h3
  rw [hb1] at h4
  have hE' : (E : Int) < (n : Int) := by omega
  have hF' : (F : Int) < (n : Int) := by omega
  clear hn hr hR ha0 ha1 hb0 hb1
  have hl1 : b ≤ w.heap.size := by omega
  have hl2 : b ≤ w.heap.size + 1 := by omega
  have hl3 : b < w.heap.size + 1 := by omega
  have hl4 : b < w.heap.size + 1 + 1 := by omega
  have hl5 : b < w.heap.size + 1 + 1 + 1 := by omega
  go_enter Try.func29, Try.ntmps29
  go_wp2
  go_region
  all_goals
    cases g1 : a0 == b0 <;> cases g2 : a0 == b1 <;> cases g3 : a1 == b0 <;> cases g4 : a1 == b1
  all_goals
    go_wp2
    go_ret
    refine ⟨?_, ?_⟩
    · rw [← HR.out, g1, g2, g3, g4]; rfl
    · have := Below.refl w.heap.size w
      go_grown


end Go.Proofs.Ytfdlhdgmbjdhbaa
