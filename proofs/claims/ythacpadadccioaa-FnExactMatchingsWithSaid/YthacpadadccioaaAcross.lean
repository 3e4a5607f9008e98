/- The other end of an edge, in the program. -/
import Derived.Test.YthacpadadccioaaImplG
namespace Go.Proofs.Ythacpadadccioaa
open Go.RowKit

def acrossF (a b v : Int) : Int × Bool := if a = v then (b, true) else if b = v then (a, true) else (0, false)

set_option maxHeartbeats 400000 in
theorem iAcross_any (a b v : Int) (w : World) :
    Calls Try.prog 153 #[.agg #[.int .i64 a, .int .i64 b], .int .i64 v] w fun e w' => e = .returned (.tuple #[.int .i64 (acrossF a b v).1, .bool (acrossF a b v).2]) ∧ Below w.heap.size w w' := by
  unfold acrossF
  by_cases h1 : a = v
  · subst h1
    simp only [if_true]
    go_enter Try.func153, Try.ntmps153
    go_wp2
    go_ret2
    exact ⟨rfl, by go_grown⟩
  · rw [if_neg h1]
    have g1 : (v == a) = false := by simp only [beq_eq_false_iff_ne, ne_eq]; exact fun e => h1 e.symm
    by_cases h2 : b = v
    · subst h2
      simp only [if_true]
      clear h1
      go_enter Try.func153, Try.ntmps153
      go_wp2
      go_ret2
      exact ⟨rfl, by go_grown⟩
    · rw [if_neg h2]
      have g2 : (v == b) = false := by simp only [beq_eq_false_iff_ne, ne_eq]; exact fun e => h2 e.symm
      clear h1 h2
      go_enter Try.func153, Try.ntmps153
      go_wp2
      go_ret2
      exact ⟨rfl, by go_grown⟩

end Go.Proofs.Ythacpadadccioaa
