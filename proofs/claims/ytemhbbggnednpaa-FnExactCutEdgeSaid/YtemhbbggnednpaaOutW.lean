/- Vertices taken out, in the program of chapter 6: numberWithout, paired. -/
import Derived.Test.YtemhbbggnednpaaSetI
import Derived.Test.YtemhbbggnednpaaLawsF
import Derived.Test.YtemhbbggnednpaaRowsE
import Derived.Test.YtemhbbggnednpaaOwnMore
import Derived.BigRegion
namespace Go.Proofs.Ytemhbbggnednpaa
open Go.RowKit

/-- The number that v has without the first k of some vertices. -/
def numW (v : Int) (xs : List Int) (k : Nat) : Int := v - (((xs.take k).filter fun x => decide (x < v)).length : Nat)
theorem numW_zero (v : Int) (xs : List Int) : numW v xs 0 = v := by simp [numW]
theorem numW_yes {v : Int} {xs : List Int} {k : Nat} (hk : k < xs.length) (h : eI xs k < v) : numW v xs (k + 1) = numW v xs k - 1 := by
  unfold numW
  rw [List.take_add_one, int_at hk, List.filter_append, List.length_append]
  simp [h]
  omega
theorem numW_no {v : Int} {xs : List Int} {k : Nat} (hk : k < xs.length) (h : ¬ eI xs k < v) : numW v xs (k + 1) = numW v xs k := by
  unfold numW
  rw [List.take_add_one, int_at hk, List.filter_append, List.length_append]
  simp [h]
theorem numW_range (v : Int) (xs : List Int) (k : Nat) : v - k ≤ numW v xs k ∧ numW v xs k ≤ v := by
  unfold numW
  have h := List.length_filter_le (fun x => decide (x < v)) (xs.take k)
  rw [List.length_take] at h
  omega

set_option maxRecDepth 100000 in
set_option maxHeartbeats 2000000 in
theorem iNumW_any (v : Int) (b off m c : Nat) (xs : List Int) (w : World) (hx : xs.length = m) (hm : m ≤ 100) (hr : ReadsI w b off xs) (hv : 0 ≤ v ∧ v ≤ 1000) :
    Calls Try.prog 86 #[.int .i64 v, .slice (some ⟨b, off, none⟩) m c] w fun e w' => e = .returned (.int .i64 (numW v xs m)) ∧ w = w' := by
  have Hx := hid hx
  have Hr := hid hr
  have hv1 := hv.1
  have hv2 := hv.2
  clear hx hr hv
  go_enter Try.func86, Try.ntmps86
  go_wp2
  go_loop [5, 11] (fun u i => ∃ (k : Nat) (y : Int), k ≤ m ∧ u = .int .i64 y ∧ i = .int .i64 k ∧ Hid (numW v xs k = y)) (fun _ i => m - (intOf i).toNat)
  case atStart => exact ⟨0, v, Nat.zero_le _, rfl, rfl, hid (numW_zero v xs)⟩
  case round =>
    obtain ⟨k, y, hk, rfl, rfl, hY⟩ := hrel
    have hrg := numW_range v xs k
    rw [hY.out] at hrg
    by_cases hlt : k < m
    · have hlt' : (k : Int) < (m : Int) := by omega
      have h1 := Hr.out k (by have := Hx.out; omega)
      have hkl : k < xs.length := by have := Hx.out; omega
      obtain ⟨x, hx⟩ : ∃ x, eI xs k = x := ⟨_, rfl⟩
      rw [hx] at h1
      have e1 : IntKind.i64.wrap (y - 1) = y - 1 := IntWalk.i64_in _ (by omega)
      by_cases hxv : x < v
      · have HN := hid (show numW v xs (k + 1) = y - 1 by rw [numW_yes hkl (by rw [hx]; exact hxv), hY.out])
        clear hx
        go_wp2
        go_round
        case rel => exact ⟨k + 1, y - 1, by omega, rfl, by go_num, HN⟩
        case measure => simp [intOf]; omega
      · have HN := hid (show numW v xs (k + 1) = y by rw [numW_no hkl (by rw [hx]; exact hxv), hY.out])
        clear hx
        go_wp2
        go_round
        case rel => exact ⟨k + 1, y, by omega, rfl, by go_num, HN⟩
        case measure => simp [intOf]; omega
    · have hkm := hid (show k = m by omega)
      go_wp2
      go_ret
      exact ⟨by rw [← hkm.out, hY.out]; rfl, rfl⟩

end Go.Proofs.Ytemhbbggnednpaa
