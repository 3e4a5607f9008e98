/- EdgesLeaving in the program. -/
import Derived.Test.YtafhpldcpgjpjaaSetI
import Derived.Test.YtafhpldcpgjpjaaLawsF
import Derived.Test.YtafhpldcpgjpjaaSpecAt
import Derived.Test.YtafhpldcpgjpjaaLeaveA
namespace Go.Proofs.Ytafhpldcpgjpjaa
open Go.RowKit

theorem SeesI.drewN {w : World} {q : Option Addr} {xs : List Int} (h : SeesI w q xs) (n : Nat) : SeesI (w.drewN n) q xs := h.on (bdn.mpr (Below.refl _ _))

set_option maxRecDepth 100000 in
set_option maxHeartbeats 4000000 in
theorem iLeaves_any (ps : Option Addr) (k f : Nat) (X Y : Int) (xs : List Int) (w : World) (hx : xs.length = k) (hk9 : k ≤ 1048576) (hrx : SeesI w ps xs) :
    Calls Try.prog 74 #[.agg #[.int .i64 X, .int .i64 Y], .slice ps k f] w fun e' w' => e' = .returned (.bool (decide (X ∈ xs) != decide (Y ∈ xs))) ∧ Below w.heap.size w w' := by
  have Hx := hid hx
  have Hrx := hid hrx
  obtain ⟨p1, hp1⟩ : ∃ p1, decide (X ∈ xs) = p1 := ⟨_, rfl⟩
  obtain ⟨p2, hp2⟩ : ∃ p2, decide (Y ∈ xs) = p2 := ⟨_, rfl⟩
  rw [hp1, hp2]
  have HP1 := hid hp1
  have HP2 := hid hp2
  have hct : ∀ (n' : Nat), Calls Try.prog 64 #[.slice ps k f, .int .i64 X] (World.drewN (w.alloc (.cells #[.int .i64 X, .int .i64 Y] 68)) n') fun e w' => e = .returned (.bool p1) ∧ ∃ m, w' = World.drewN (w.alloc (.cells #[.int .i64 X, .int .i64 Y] 68)) m := fun n' => by
    have h := quiet_same ((iContains_any ps k f X xs (World.drewN (w.alloc (.cells #[.int .i64 X, .int .i64 Y] 68)) n') Hx.out hk9 ((Hrx.out.alloc _).drewN _)))
    rw [HP1.out] at h
    exact h
  have hcu : ∀ (n' : Nat), Calls Try.prog 64 #[.slice ps k f, .int .i64 Y] (World.drewN (w.alloc (.cells #[.int .i64 X, .int .i64 Y] 68)) n') fun e w' => e = .returned (.bool p2) ∧ ∃ m, w' = World.drewN (w.alloc (.cells #[.int .i64 X, .int .i64 Y] 68)) m := fun n' => by
    have h := quiet_same ((iContains_any ps k f Y xs (World.drewN (w.alloc (.cells #[.int .i64 X, .int .i64 Y] 68)) n') Hx.out hk9 ((Hrx.out.alloc _).drewN _)))
    rw [HP2.out] at h
    exact h
  have HCT := hid hct
  have HCU := hid hcu
  clear hx hrx hp1 hp2 hct hcu
  rcases p1 with _ | _ <;> rcases p2 with _ | _
  all_goals
    go_enter Try.func74, Try.ntmps74
    go_wp2
    go_quiet ((first | (go_at_call_of 64 X; exact HCT.out _) | (go_at_call_of 64 Y; exact HCU.out _)))
    go_wp2
    go_ret
    exact ⟨rfl, by simp only [bdn]; exact on_alloc _ _⟩

end Go.Proofs.Ytafhpldcpgjpjaa
