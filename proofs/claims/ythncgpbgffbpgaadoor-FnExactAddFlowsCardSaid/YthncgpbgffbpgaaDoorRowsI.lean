/- Rows of lists of numbers in memory: the lists behind the last parameter. -/
import Derived.Test.YthncgpbgffbpgaaDoorLawsF
namespace Go.Proofs.YthncgpbgffbpgaaDoor
open Go.RowKit

/-- Lists of numbers lie in memory as rows: k slices from a place on. -/
def RowsI (w : World) (b off k : Nat) (P : Nat → Option Addr) (L C : Nat → Nat) (X : Nat → List Int) : Prop :=
  ∀ i, i < k → w.cell? ⟨b, off + i, none⟩ = some (.slice (P i) (L i) (C i)) ∧ (X i).length = L i ∧ L i ≤ 1048576 ∧ SeesI w (P i) (X i)
theorem RowsI.on {w w' : World} {b off k : Nat} {P : Nat → Option Addr} {L C : Nat → Nat} {X : Nat → List Int} (h : RowsI w b off k P L C X) (hb : Below w.heap.size w w') : RowsI w' b off k P L C X := fun i hi => by
  obtain ⟨h1, h2, h3, h4⟩ := h i hi
  exact ⟨((bcells hb).1 _ _ (World.block_lt_of_cell? w _ h1)).trans h1, h2, h3, h4.on hb⟩
theorem RowsI.drew {w : World} {b off k : Nat} {P : Nat → Option Addr} {L C : Nat → Nat} {X : Nat → List Int} (h : RowsI w b off k P L C X) : RowsI w.drew b off k P L C X := h
theorem rows_one {w : World} {g : Nat} {q : Option Addr} {m d : Nat} {xs : List Int} {t : TypeId} (hg : g = w.heap.size) (hl : xs.length = m) (hm : m ≤ 1048576) (hs : SeesI w q xs) : RowsI (w.alloc (.cells #[.slice q m d] t)) g 0 1 (fun _ => q) (fun _ => m) (fun _ => d) (fun _ => xs) := fun i hi => by
  subst hg
  obtain rfl : i = 0 := by omega
  exact ⟨by simp, hl, hm, hs.alloc _⟩
theorem rows_two {w : World} {g : Nat} {q q' : Option Addr} {m d m' d' : Nat} {xs ys : List Int} {t : TypeId} (hg : g = w.heap.size) (hl : xs.length = m) (hm : m ≤ 1048576) (hs : SeesI w q xs) (hl' : ys.length = m') (hm' : m' ≤ 1048576) (hs' : SeesI w q' ys) :
    RowsI (w.alloc (.cells #[.slice q m d, .slice q' m' d'] t)) g 0 2 (fun i => if i = 0 then q else q') (fun i => if i = 0 then m else m') (fun i => if i = 0 then d else d') (fun i => if i = 0 then xs else ys) := fun i hi => by
  subst hg
  rcases (by omega : i = 0 ∨ i = 1) with rfl | rfl
  · exact ⟨by simp, hl, hm, hs.alloc _⟩
  · exact ⟨by simp, hl', hm', hs'.alloc _⟩

/-- The least and the greatest of the first k + 1 numbers. -/
def minU (xs : List Int) : Nat → Int
  | 0 => eI xs 0
  | k + 1 => min (minU xs k) (eI xs (k + 1))
def maxU (xs : List Int) : Nat → Int
  | 0 => eI xs 0
  | k + 1 => max (maxU xs k) (eI xs (k + 1))
theorem minU_low (xs : List Int) (lo : Int) : ∀ k, minU xs k < lo ↔ ∃ i, i ≤ k ∧ eI xs i < lo
  | 0 => ⟨fun h => ⟨0, Nat.le_refl _, h⟩, fun ⟨i, hi, h⟩ => by rw [Nat.le_zero.1 hi] at h; exact h⟩
  | k + 1 => by
    have ih := minU_low xs lo k
    unfold minU
    constructor
    · intro h
      by_cases h1 : minU xs k < lo
      · obtain ⟨i, hi, hx⟩ := ih.1 h1
        exact ⟨i, by omega, hx⟩
      · exact ⟨k + 1, Nat.le_refl _, by omega⟩
    · rintro ⟨i, hi, hx⟩
      by_cases h1 : i = k + 1
      · subst h1; omega
      · have := ih.2 ⟨i, by omega, hx⟩
        omega
theorem maxU_high (xs : List Int) (hi : Int) : ∀ k, hi < maxU xs k ↔ ∃ i, i ≤ k ∧ hi < eI xs i
  | 0 => ⟨fun h => ⟨0, Nat.le_refl _, h⟩, fun ⟨i, hi, h⟩ => by rw [Nat.le_zero.1 hi] at h; exact h⟩
  | k + 1 => by
    have ih := maxU_high xs hi k
    unfold maxU
    constructor
    · intro h
      by_cases h1 : hi < maxU xs k
      · obtain ⟨i, hi, hx⟩ := ih.1 h1
        exact ⟨i, by omega, hx⟩
      · exact ⟨k + 1, Nat.le_refl _, by omega⟩
    · rintro ⟨i, hl, hx⟩
      by_cases h1 : i = k + 1
      · subst h1; omega
      · have := ih.2 ⟨i, by omega, hx⟩
        omega

set_option maxRecDepth 100000 in
set_option maxHeartbeats 2000000 in
theorem iMin_any (b off k f : Nat) (xs : List Int) (w : World) (hk : 0 < k) (hk9 : k ≤ 1048576) (hx : xs.length = k) (hr : ReadsI w b off xs) :
    Calls Tryd.prog 39 #[.slice (some ⟨b, off, none⟩) k f] w fun e' w' => e' = .returned (.int .i64 (minU xs (k - 1))) ∧ w = w' := by
  have Hx := hid hx
  have Hr := hid hr
  have hb := hr.lt (by omega)
  have h0 := hr 0 (by omega)
  rw [Nat.add_zero] at h0
  have hk1 : ((k : Int) < 1) = False := by simp; omega
  have hk2 : (1 : Int) ≤ (k : Int) := by omega
  clear hx hr
  go_enter Tryd.func39, Tryd.ntmps39
  go_wp2
  go_loopw [3, 4] (fun m i wr => ∃ i' : Nat, i' + 1 ≤ k ∧ i = .int .i64 ((i' : Int) + 1) ∧ m = .int .i64 (minU xs i') ∧ wr = w) (fun _ i _ => k - (intOf i).toNat)
  case atStart => exact ⟨0, by omega, rfl, rfl, rfl⟩
  case round =>
    obtain ⟨i, hi, rfl, rfl, rfl⟩ := hrel
    by_cases hlt : i + 1 < k
    · have hc := Hr.out (i + 1) (by have := Hx.out; omega)
      have e1 : (((i : Int) + 1).toNat) = i + 1 := by omega
      have e2 : (i : Int) + 1 < (k : Int) := by omega
      have e3 : (0 : Int) ≤ (i : Int) + 1 := by omega
      go_wp2
      go_roundw
      case rel => exact ⟨i + 1, by omega, by go_num, by simp only [minU]; congr 1; split <;> omega, by trivial⟩
      case measure => simp [intOf]; omega
    · obtain rfl : k = i + 1 := by omega
      go_wp2
      go_ret
      exact ⟨rfl, rfl⟩

set_option maxRecDepth 100000 in
set_option maxHeartbeats 2000000 in
theorem iMax_any (b off k f : Nat) (xs : List Int) (w : World) (hk : 0 < k) (hk9 : k ≤ 1048576) (hx : xs.length = k) (hr : ReadsI w b off xs) :
    Calls Tryd.prog 40 #[.slice (some ⟨b, off, none⟩) k f] w fun e' w' => e' = .returned (.int .i64 (maxU xs (k - 1))) ∧ w = w' := by
  have Hx := hid hx
  have Hr := hid hr
  have hb := hr.lt (by omega)
  have h0 := hr 0 (by omega)
  rw [Nat.add_zero] at h0
  have hk1 : ((k : Int) < 1) = False := by simp; omega
  have hk2 : (1 : Int) ≤ (k : Int) := by omega
  clear hx hr
  go_enter Tryd.func40, Tryd.ntmps40
  go_wp2
  go_loopw [3, 4] (fun m i wr => ∃ i' : Nat, i' + 1 ≤ k ∧ i = .int .i64 ((i' : Int) + 1) ∧ m = .int .i64 (maxU xs i') ∧ wr = w) (fun _ i _ => k - (intOf i).toNat)
  case atStart => exact ⟨0, by omega, rfl, rfl, rfl⟩
  case round =>
    obtain ⟨i, hi, rfl, rfl, rfl⟩ := hrel
    by_cases hlt : i + 1 < k
    · have hc := Hr.out (i + 1) (by have := Hx.out; omega)
      have e1 : (((i : Int) + 1).toNat) = i + 1 := by omega
      have e2 : (i : Int) + 1 < (k : Int) := by omega
      have e3 : (0 : Int) ≤ (i : Int) + 1 := by omega
      go_wp2
      go_roundw
      case rel => exact ⟨i + 1, by omega, by go_num, by simp only [maxU]; congr 1; split <;> omega, by trivial⟩
      case measure => simp [intOf]; omega
    · obtain rfl : k = i + 1 := by omega
      go_wp2
      go_ret
      exact ⟨rfl, rfl⟩

end Go.Proofs.YthncgpbgffbpgaaDoor
