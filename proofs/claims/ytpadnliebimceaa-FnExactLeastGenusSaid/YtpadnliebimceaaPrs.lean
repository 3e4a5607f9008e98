/- The pairs of colours in the program: pairsWithin and the range over them. Regions that draw their order inside a round of a range over a function: what holds of them outside of rounds holds in one, if they hold no defer. -/
import Derived.Test.YtpadnliebimceaaImplB
import Derived.Test.YtpadnliebimceaaLawsD
import Derived.Test.YtpadnliebimceaaImplG
import Derived.Test.YtpadnliebimceaaMoves
import Derived.Test.YtpadnliebimceaaOwnMore
import Derived.OrdersIn
import Derived.RangeFuncBox
import Derived.Shelf.Abstract
import Derived.Shelf.RegionOpen
import Derived.TacticsInMore
import Derived.LoopNIn
import Derived.LoopIn
import Derived.TacticsIn
import Derived.OwnWalkIn
import Derived.WalkKit
import Derived.WalkMore
import Derived.StillTailTactics
import Derived.BigQuiet
import Derived.Deep.AppendLies
import Derived.Deep.DeepMust

/- Numbers below a bound, in the program: areBelow. -/
namespace Go.Proofs.Ytpadnliebimceaa
open Go.RowKit

set_option maxRecDepth 100000 in
set_option maxHeartbeats 2000000 in
theorem iAreBelow_any (N : Int) (b off m c : Nat) (xs : List Int) (w : World) (hx : xs.length = m) (hm : m ≤ 1048576) (hr : ReadsI w b off xs) :
    Calls Try.prog 103 #[.int .i64 N, .slice (some ⟨b, off, none⟩) m c] w fun e w' => e = .returned (.bool (decide (∀ i, i < m → 0 ≤ eI xs i ∧ eI xs i < N))) ∧ w' = w := by
  have Hx := hid hx
  have Hr := hid hr
  have hm9 : m ≤ 9223372036854775807 := by omega
  obtain ⟨r, hR⟩ : ∃ r, decide (∀ i, i < m → 0 ≤ eI xs i ∧ eI xs i < N) = r := ⟨_, rfl⟩
  rw [hR]
  have HR := hid hR
  clear hx hr hR
  go_enter Try.func103, Try.ntmps103
  go_wp2
  go_loop [9] (fun i => ∃ k : Nat, k ≤ m ∧ i = .int .i64 k ∧ Hid (∀ j, j < k → 0 ≤ eI xs j ∧ eI xs j < N)) (fun i => m - (intOf i).toNat)
  case atStart => exact ⟨0, Nat.zero_le _, rfl, hid (fun j hj => by omega)⟩
  case round =>
    obtain ⟨k, hk, rfl, hE⟩ := hrel
    by_cases hlt : k < m
    · have hlt' : (k : Int) < (m : Int) := by omega
      have h1 := Hr.out k (by have := Hx.out; omega)
      obtain ⟨y, hy⟩ : ∃ y, eI xs k = y := ⟨_, rfl⟩
      rw [hy] at h1
      have HY := hid hy
      clear hy
      by_cases hv : 0 ≤ y ∧ y < N
      · have Hv := hid hv
        clear hv
        go_wp2_with (go_at_call 66; refine (iBelow_yes _ _ _ Hv.out).mono ?_; rintro e' w' ⟨rfl, rfl⟩)
        go_round
        case rel =>
          refine ⟨k + 1, by omega, by go_num, hid (fun j hj => ?_)⟩
          rcases Nat.lt_or_ge j k with h | h
          · exact hE.out j h
          · have ej : j = k := by omega
            rw [ej, HY.out]
            exact Hv.out
        case measure => simp [intOf]; omega
      · have Hv := hid hv
        clear hv
        go_wp2_with (go_at_call 66; refine (iBelow_no _ _ _ Hv.out).mono ?_; rintro e' w' ⟨rfl, rfl⟩)
        go_ret
        refine ⟨?_, rfl⟩
        rw [← HR.out, decide_eq_false (fun h => Hv.out (by have h1 := h k hlt; rwa [HY.out] at h1))]
        rfl
    · have hkn := hid (show k = m by omega)
      go_wp2
      go_ret
      refine ⟨?_, rfl⟩
      rw [← HR.out, decide_eq_true (fun j hj => hE.out j (by have := hkn.out; omega))]
      rfl

end Go.Proofs.Ytpadnliebimceaa

namespace Go.Proofs.Ytpadnliebimceaa
open Go.RowKit Go.Shelf

def plainB (o : Oper) : Bool := match o.op with
  | .defer _ => false
  | _ => true
theorem plainB_ne {o : Oper} (h : plainB o = true) : ∀ c, o.op ≠ .defer c := fun c e => by
  unfold plainB at h
  rw [e] at h
  cases h

section
variable {F : Fence} {n l : Nat} {P : Program} {ops : Array Oper} {Q : Exit → Act → World → Prop} {md : Region.Mode}

theorem oper_round {o : Oper} {a : Act} {w : World} {K K' : Act → World → Prop} (hF : F.round = none) (hnd : ∀ c, o.op ≠ .defer c) (hK : ∀ a w, K a w → K' a w) (h : o.wpIn F n P a w K Q) : o.wpIn (F.inRound l) n P a w K' Q := by
  have h := Oper.wpIn_mono hK h
  unfold Oper.wpIn at h ⊢
  obtain ⟨h1, h2⟩ := h
  refine ⟨h1, ?_⟩
  rw [show (F.inRound l).round = some l from rfl, Oper.semAt_eq _ _ _ hnd]
  rw [hF, Oper.semAt_none] at h2
  generalize (execOp a.eval o).run P w = r at *
  cases r with
  | ok x w' => cases x <;> exact h2
  | halt x w' => cases x <;> exact h2

theorem any_round (hF : F.round = none) (hnd : ops.toList.all plainB = true) : ∀ (fuel : Nat) (listed : Array Bool) (a : Act) (w : World), wpAnyIn F n P md ops Q fuel listed a w → wpAnyIn (F.inRound l) n P md ops Q fuel listed a w
  | 0, _, _, _, h => h
  | fuel + 1, listed, a, w, h => by
    refine ⟨h.1, fun i hi => ?_⟩
    have h2 := h.2 i hi
    unfold wpOpIn at h2 ⊢
    cases ho : ops[i]? with
    | none =>
      rw [ho] at h2
      exact any_round hF hnd fuel _ _ _ h2
    | some o =>
      rw [ho] at h2
      simp only at h2 ⊢
      have hno : ∀ c, o.op ≠ .defer c := plainB_ne (List.all_eq_true.1 hnd o (by
        obtain ⟨h3, h4⟩ := Array.getElem?_eq_some_iff.1 ho
        rw [← h4]
        exact Array.getElem_mem_toList h3))
      split at h2
      · rename_i hw
        rw [if_pos hw]
        exact oper_round hF hno (fun a' w' h' => any_round hF hnd fuel _ a' w' h') h2
      · rename_i hw
        rw [if_neg hw]
        exact ⟨h2.1, any_round hF hnd fuel _ _ _ h2.2⟩

theorem region_round {id : Nat} {a : Act} {w : World} (hF : F.round = none) (hm : P.follows .mixedOrders = true) (hnd : ops.toList.all plainB = true)
    (h : wpAnyIn F n P .any ops Q ops.size (Array.replicate ops.size false) a w.drew) : (Code.region id ops true).wpIn (F.inRound l) n P Q a w :=
  wpIn_region_any hm (any_round hF hnd _ _ _ _ h)
end

attribute [local go_sem] Oper.semAt_some

/-- The pairs of colours in their order, and the numbers of the first k. -/
def prA (k : Nat) : Int := if k < 2 then 0 else 1
def prB (k : Nat) : Int := if k = 0 then 1 else 2
def lab (a b : Nat) : Nat := if a = 0 then b - 1 else if a = 1 then b else 3
theorem lab_pr {a b : Nat} (h1 : a < b) (h2 : b < 3) : prA (lab a b) = a ∧ prB (lab a b) = b := by
  rcases (by omega : (a = 0 ∧ b = 1) ∨ (a = 0 ∧ b = 2) ∨ (a = 1 ∧ b = 2)) with ⟨rfl, rfl⟩ | ⟨rfl, rfl⟩ | ⟨rfl, rfl⟩ <;> decide
theorem lab_le {a b : Nat} (h : b ≤ 3) : lab a b ≤ 3 := by
  unfold lab
  split
  · omega
  · split <;> omega
theorem lab_next {a b : Nat} (h1 : a < b) (h2 : b < 3) : lab a (b + 1) = lab a b + 1 := by
  unfold lab
  split
  · omega
  · split <;> omega
theorem lab_turn {a : Nat} (h : a < 3) : lab a 3 = lab (a + 1) (a + 1 + 1) := by
  rcases (by omega : a = 0 ∨ a = 1 ∨ a = 2) with rfl | rfl | rfl <;> decide



end Go.Proofs.Ytpadnliebimceaa
