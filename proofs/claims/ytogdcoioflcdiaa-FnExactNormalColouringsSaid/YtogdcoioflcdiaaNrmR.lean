/- The first k numbers as a list, and graphs have at least three edges. No program is named here. -/
import Derived.Test.YtogdcoioflcdiaaNrmA
namespace Go.Proofs.Ytogdcoioflcdiaa
open Go.RowKit

/-- The first k numbers. -/
def rngI (k : Nat) : List Int := (List.range k).map fun (i : Nat) => (i : Int)
theorem rngI_len (k : Nat) : (rngI k).length = k := by simp [rngI]
theorem rngI_succ (k : Nat) : rngI (k + 1) = rngI k ++ [(k : Int)] := by
  unfold rngI
  rw [List.range_succ, List.map_append]
  rfl
theorem rngI_at {k i : Nat} (hi : i < k) : eI (rngI k) i = i := by
  unfold eI rngI
  simp [List.getD_eq_getElem?_getD, hi]
theorem rngI_fits (es : List (Int × Int)) (k : Nat) : fitsP es (rngI k) (rngI k).length k := by
  rw [rngI_len]
  intro j hj _ h
  rw [rngI_at hj] at h
  omega
theorem three_leN {s : Int} {es : List (Int × Int)} (h : IsG s es) : 3 ≤ es.length := by
  have h1 := h.1.1.1
  have h2 := h.1.1.2.2.2
  omega

end Go.Proofs.Ytogdcoioflcdiaa
