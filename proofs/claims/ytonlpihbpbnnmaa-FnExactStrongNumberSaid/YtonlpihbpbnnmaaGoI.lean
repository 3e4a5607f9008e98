/- The search for the least list that suits, in the program: tried, goOn, leastFor. -/
import Derived.Test.YtonlpihbpbnnmaaSrcA
import Derived.Test.YtonlpihbpbnnmaaSuitI
import Derived.Test.YtonlpihbpbnnmaaRowsO
import Derived.Laws.BitsAllLaws
import Derived.Deep.RegionHeld3
import Derived.BigQuiet
namespace Go.Proofs.Ytonlpihbpbnnmaa
open Go.RowKit

/-- The greatest of the first numbers. -/
def maxU (xs : List Int) : Nat → Int
  | 0 => eI xs 0
  | k + 1 => max (maxU xs k) (eI xs k)
theorem maxU_ge (xs : List Int) : ∀ k i, i < k → eI xs i ≤ maxU xs k
  | 0, i, h => absurd h (by omega)
  | k + 1, i, h => by
    show _ ≤ max (maxU xs k) (eI xs k)
    rcases Nat.lt_or_ge i k with h1 | h1
    · have := maxU_ge xs k i h1; omega
    · have : i = k := by omega
      subst this; omega
theorem maxU_lt {xs : List Int} {K : Int} (h : ∀ i, i < xs.length → 0 ≤ eI xs i ∧ eI xs i < K) (h1 : 1 ≤ xs.length) : ∀ k, k ≤ xs.length → 0 ≤ maxU xs k ∧ maxU xs k < K
  | 0, _ => h 0 (by omega)
  | k + 1, hk => by
    have h2 := maxU_lt h h1 k (by omega)
    have h3 := h k (by omega)
    show 0 ≤ max (maxU xs k) (eI xs k) ∧ max (maxU xs k) (eI xs k) < K
    omega
theorem maxU_one (xs : List Int) : maxU xs 1 = eI xs 0 := by
  show max (eI xs 0) (eI xs 0) = _
  omega

set_option maxRecDepth 100000 in
set_option maxHeartbeats 4000000 in
theorem iMax_any (q : Option Addr) (n c : Nat) (xs : List Int) (w : World) (hn : xs.length = n) (hn2 : n ≤ 60) (h1 : 1 ≤ n) (hr : SeesI w q xs) :
    Calls Try.prog 173 #[.slice q n c] w fun e' w' => e' = .returned (.int .i64 (maxU xs n)) ∧ w' = w := by
  have Hn := hid hn
  obtain ⟨b, off, rfl, hrd⟩ : ∃ b off, q = some ⟨b, off, none⟩ ∧ ReadsI w b off xs := by
    rcases hr with h | h
    · rw [h] at hn; simp at hn; omega
    · exact h
  have Hrd := hid hrd
  have k0 := hrd 0 (by omega)
  obtain ⟨x0, hx0⟩ : ∃ x0, eI xs 0 = x0 := ⟨_, rfl⟩
  rw [hx0, Nat.add_zero] at k0
  have HX0 := hid hx0
  have h1' : (1 : Int) ≤ (n : Int) := by omega
  have h1n : ¬ (n : Int) < 1 := by omega
  clear hn hr hrd hx0
  go_enter Try.func173, Try.ntmps173
  go_wp2
  go_loop [3, 4] (fun m i => ∃ k : Nat, 1 ≤ k ∧ k ≤ n ∧ i = .int .i64 k ∧ ∃ M, m = .int .i64 M ∧ Hid (M = maxU xs k)) (fun _ i => n - (intOf i).toNat)
  case atStart => exact ⟨1, Nat.le_refl _, h1, rfl, _, rfl, hid (by rw [maxU_one, HX0.out])⟩
  case round =>
    obtain ⟨k, hk1, hk, rfl, m, rfl, hM⟩ := hrel
    by_cases hlt : k < n
    · have hlt' : (k : Int) < (n : Int) := by omega
      have h2 := Hrd.out k (by rw [Hn.out]; exact hlt)
      obtain ⟨y, hy⟩ : ∃ y, eI xs k = y := ⟨_, rfl⟩
      rw [hy] at h2
      have HY := hid hy
      clear hy
      go_wp2
      all_goals
        go_round
        case rel => exact ⟨k + 1, by omega, by omega, by go_num, _, rfl, hid (by show _ = max (maxU xs k) (eI xs k); rw [← hM.out, HY.out]; omega)⟩
        case measure => simp [intOf]; omega
    · obtain rfl : k = n := by omega
      go_wp2
      go_ret
      rw [hM.out]
      exact ⟨rfl, rfl⟩

/-- How many numbers are tried. -/
def triedN (k d : Int) (xs : List Int) : Int := if xs.length = 0 then 1 else if d = 1 then min k (maxU xs xs.length + 2) else k
theorem triedN_ok {k : Nat} {d : Int} {xs : List Int} (hk : 1 ≤ k) (h : ∀ i, i < xs.length → 0 ≤ eI xs i ∧ eI xs i < k) : ∃ t : Nat, triedN k d xs = t ∧ t ≤ k ∧ triedP k d xs t := by
  unfold triedN
  by_cases h0 : xs.length = 0
  · rw [if_pos h0]
    exact ⟨1, rfl, hk, .inr (.inl ⟨List.eq_nil_of_length_eq_zero h0, rfl, hk⟩)⟩
  · rw [if_neg h0]
    by_cases h1 : d = 1
    · rw [if_pos h1]
      have hm := maxU_lt h (by omega) xs.length (Nat.le_refl _)
      obtain ⟨m, hm'⟩ : ∃ m : Nat, maxU xs xs.length = m := ⟨_, (Int.toNat_of_nonneg hm.1).symm⟩
      rw [hm'] at hm ⊢
      by_cases h2 : k ≤ m + 2
      · exact ⟨k, by omega, Nat.le_refl _, .inl rfl⟩
      · refine ⟨m + 2, by omega, by omega, .inr (.inr ⟨h1, by omega, by omega, fun i hi => ?_⟩)⟩
        have := maxU_ge xs xs.length i hi
        omega
    · rw [if_neg h1]
      exact ⟨k, rfl, Nat.le_refl _, .inl rfl⟩

set_option maxRecDepth 100000 in
set_option maxHeartbeats 4000000 in
theorem iTried_any (k d : Int) (q : Option Addr) (n c : Nat) (xs : List Int) (w : World) (hn : xs.length = n) (hn2 : n ≤ 60) (hr : SeesI w q xs) (hk : 0 ≤ k ∧ k ≤ 1000) (h : ∀ i, i < xs.length → 0 ≤ eI xs i ∧ eI xs i < k) :
    Calls Try.prog 157 #[.agg #[.int .i64 k, .int .i64 d], .slice q n c] w fun e' w' => e' = .returned (.int .i64 (triedN k d xs)) ∧ Below w.heap.size w w' := by
  obtain ⟨r, hR⟩ : ∃ r, triedN k d xs = r := ⟨_, rfl⟩
  rw [hR]
  have HR := hid hR
  have Hn := hid hn
  have Hr := hid hr
  have H := hid h
  have HX := hid (Circ.new w k d)
  have HB1 := hid (on_alloc w (.cells #[.int .i64 k, .int .i64 d] 74))
  clear hR hn hr h
  by_cases h0 : n = 0
  · subst h0
    have HF := hid (show (1 : Int) = r by rw [← HR.out]; unfold triedN; rw [if_pos Hn.out])
    go_enter Try.func157, Try.ntmps157
    go_wp2
    go_ret
    rw [← HF.out]
    exact ⟨rfl, HB1.out⟩
  · have hn0 : ((n : Int) == 0) = false := by simpa using h0
    by_cases hd : d = 1
    · have HF := hid (show (k ≤ maxU xs n + 2 → r = k) ∧ (maxU xs n + 2 ≤ k → r = maxU xs n + 2) by rw [← HR.out]; unfold triedN; rw [if_neg (by rw [Hn.out]; exact h0), if_pos hd, Hn.out]; omega)
      have hm := maxU_lt H.out (by rw [Hn.out]; omega) n (by rw [Hn.out]; omega)
      obtain ⟨m, hm'⟩ : ∃ m, maxU xs n = m := ⟨_, rfl⟩
      rw [hm'] at hm HF
      have HM := hid hm'
      clear hm'
      subst hd
      go_enter Try.func157, Try.ntmps157
      have hx0 := HX.out.c0
      have hx1 := HX.out.c1
      have ew : IntKind.i64.wrap (m + 2) = m + 2 := IntWalk.i64_in _ (by omega)
      by_cases hle : k ≤ m + 2
      all_goals
        go_wp2
        go_region_with (go_at_call 173; refine (iMax_any q n c xs _ Hn.out hn2 (by omega) (Hr.out.on (bfrom HB1.out (by first | exact Below.refl _ _ | exact (Below.refl _ _).drew)))).mono ?_; rw [HM.out]; rintro e' w' ⟨rfl, rfl⟩)
      all_goals
        go_wp2
        go_ret
        refine ⟨congrArg (fun b => Ending.returned (Value.int .i64 b)) ?_, by first | exact HB1.out | exact bdn.mpr HB1.out⟩
        first
          | exact (HF.out.1 (by omega)).symm
          | exact (HF.out.2 (by omega)).symm
          | (rw [ew]; exact (HF.out.2 (by omega)).symm)
    · have HF := hid (show k = r by rw [← HR.out]; unfold triedN; rw [if_neg (by rw [Hn.out]; exact h0), if_neg hd])
      have hd1 : (d == 1) = false := by simpa using hd
      go_enter Try.func157, Try.ntmps157
      go_wp2
      go_ret
      rw [← HF.out]
      exact ⟨rfl, HB1.out⟩

end Go.Proofs.Ytonlpihbpbnnmaa
