/- Ways of a length, plainly: the numbers of ways to each vertex, step by step. No program is named here. -/
import Derived.Test.YthacpadadccioaaOnce
namespace Go.Proofs.Ythacpadadccioaa
open Go.RowKit

/-- What an edge with the ends x and y adds. -/
def wayE (now next : List Int) (x y : Nat) : List Int :=
  (next.set x (wrap64 (eI next x + eI now y))).set y (wrap64 (eI (next.set x (wrap64 (eI next x + eI now y))) y + eI now x))
/-- What the first k edges add. -/
def wayU (N : Nat) (es : List (Int × Int)) (now : List Int) : Nat → List Int
  | 0 => List.replicate N 0
  | k + 1 => wayE now (wayU N es now k) (eA es k).toNat (eB es k).toNat
/-- The numbers of ways of k steps. -/
def wayF (N : Nat) (es : List (Int × Int)) (a : Nat) : Nat → List Int
  | 0 => (List.replicate N 0).set a 1
  | k + 1 => wayU N es (wayF N es a k) es.length
theorem wayE_len (now next : List Int) (x y : Nat) : (wayE now next x y).length = next.length := by
  unfold wayE
  rw [List.length_set, List.length_set]
theorem wayU_len (N : Nat) (es : List (Int × Int)) (now : List Int) : ∀ k, (wayU N es now k).length = N
  | 0 => by simp [wayU]
  | k + 1 => by
    show (wayE _ _ _ _).length = _
    rw [wayE_len, wayU_len N es now k]
theorem wayF_len (N : Nat) (es : List (Int × Int)) (a : Nat) : ∀ k, (wayF N es a k).length = N
  | 0 => by simp [wayF]
  | k + 1 => wayU_len N es _ _
theorem wayU_step {N k X Y : Nat} {es : List (Int × Int)} {now : List Int} (hX : eA es k = X) (hY : eB es k = Y) (hXN : X < N) (hXY : X ≠ Y) :
    wayU N es now (k + 1) = ((wayU N es now k).set X (wrap64 (eI (wayU N es now k) X + eI now Y))).set Y (wrap64 (eI (wayU N es now k) Y + eI now X)) := by
  show wayE _ _ _ _ = _
  unfold wayE
  rw [hX, hY, Int.toNat_natCast, Int.toNat_natCast, eI_set (k := X) (i := Y) (by rw [wayU_len]; exact hXN), if_neg (fun e => hXY e.symm)]
def fCountWaysOf (s : Int) (es : List (Int × Int)) (a b k : Int) : Int × Int :=
  if IsG s es then (if ((0 ≤ a ∧ a < s) ∧ (0 ≤ b ∧ b < s)) ∧ (0 ≤ k ∧ k ≤ 12) then (eI (wayF s.toNat es a.toNat k.toNat) b.toNat, 0) else (0, 2)) else (0, 1)

end Go.Proofs.Ythacpadadccioaa
