/- CycleTypeOf at any list, in the model and in the program. -/
import Derived.Test.YtbimllpfbgjajaaCtS
import Derived.Test.YtbimllpfbgjajaaCtI
namespace Go.Proofs.Ytbimllpfbgjajaa
open Go.RowKit

attribute [local go_sem] Oper.semAt_some

theorem fCt_yes {xs : List Int} {m : Nat} (hl : xs.length = m) (h1 : 1 ≤ m) (h2 : m ≤ 20) (he : eachF (m : Int) xs) : fCycleTypeOf xs = (dscI (ctU xs m).2, 0) := by
  unfold fCycleTypeOf
  rw [hl, if_pos ⟨⟨h1, h2⟩, he⟩]
theorem fCt_no {xs : List Int} {m : Nat} (hl : xs.length = m) (h : ¬ ((1 ≤ m ∧ m ≤ 20) ∧ eachF (m : Int) xs)) : fCycleTypeOf xs = ([], 2) := by
  unfold fCycleTypeOf
  rw [hl, if_neg h]

set_option maxRecDepth 100000 in
set_option maxHeartbeats 4000000 in
theorem sCt_out (p : Option Addr) (m c : Nat) (w : World) (hm : m ≤ 1048576) (h : ¬ (1 ≤ m ∧ m ≤ 20)) :
    Calls Try.prog 37 #[.slice p m c] w fun e w' => e = .returned (.tuple #[.slice none 0 0, .int .i64 2]) ∧ Below w.heap.size w w' := by
  have hm9 : m ≤ 9223372036854775807 := by omega
  have H := hid h
  clear h
  go_enter Try.func37, Try.ntmps37
  go_wp2_with fail
  refine (sIn_no _ _ _ _ (by have := H.out; omega)).mono ?_
  rintro e w0 ⟨rfl, rfl⟩
  go_wp2
  go_ret2
  exact ⟨rfl, Below.refl _ _⟩
set_option maxRecDepth 100000 in
set_option maxHeartbeats 4000000 in
theorem sCt_each (p : Option Addr) (m c : Nat) (xs : List Int) (w : World) (hl : xs.length = m) (hr : SeesI w p xs) (h1 : 1 ≤ m) (h2 : m ≤ 20) (h : ¬ eachF (m : Int) xs) :
    Calls Try.prog 37 #[.slice p m c] w fun e w' => e = .returned (.tuple #[.slice none 0 0, .int .i64 2]) ∧ Below w.heap.size w w' := by
  have H := hid h
  have Hl := hid hl
  have Hr := hid hr
  clear h hl hr
  go_enter Try.func37, Try.ntmps37
  go_wp2_with fail
  refine (sIn_yes _ _ _ _ (by omega)).mono ?_
  rintro e w0 ⟨rfl, rfl⟩
  go_wp2_with fail
  refine (sTen_any _ _ _ _ xs _ (by omega) (by omega) Hl.out Hr.out).mono ?_
  rw [decide_eq_false H.out]
  rintro e w2 ⟨rfl, hb2⟩
  go_wp2
  go_ret2
  exact ⟨rfl, hb2⟩
theorem sCycleTypeOf_any (p : Option Addr) (m c : Nat) (xs : List Int) (w : World) (hm : m ≤ 1048576) (hl : xs.length = m) (hr : SeesI w p xs) :
    Calls Try.prog 37 #[.slice p m c] w fun e w' => ∃ q cap, e = .returned (.tuple #[.slice q (fCycleTypeOf xs).1.length cap, .int .i64 (fCycleTypeOf xs).2]) ∧ FreshI w.heap.size w' q (fCycleTypeOf xs).1.length cap (fCycleTypeOf xs).1 ∧ Below w.heap.size w w' := by
  by_cases h : 1 ≤ m ∧ m ≤ 20
  · by_cases he : eachF (m : Int) xs
    · rw [fCt_yes hl h.1 h.2 he]
      rcases hr with rfl | ⟨b, off, rfl, hr⟩
      · simp at hl; omega
      · exact sCt_yes b off m c xs w h.1 h.2 hl hr he
    · rw [fCt_no hl (fun k => he k.2)]
      exact (sCt_each p m c xs w hl hr h.1 h.2 he).mono fun e w' ⟨h1, h2⟩ => ⟨none, 0, h1, FreshI.nil _ _, h2⟩
  · rw [fCt_no hl (fun k => h k.1)]
    exact (sCt_out p m c w hm h).mono fun e w' ⟨h1, h2⟩ => ⟨none, 0, h1, FreshI.nil _ _, h2⟩

set_option maxRecDepth 100000 in
set_option maxHeartbeats 4000000 in
theorem iCt_none (p : Option Addr) (m c : Nat) (w : World) (h : m < 1) :
    Calls Try.prog 38 #[.slice p m c] w fun e w' => e = .returned (.tuple #[.slice none 0 0, .int .i64 2]) ∧ Below w.heap.size w w' := by
  have h1 : (m : Int) < 1 := by omega
  go_enter Try.func38, Try.ntmps38
  go_wp2
  go_ret2
  exact ⟨rfl, Below.refl _ _⟩
set_option maxRecDepth 100000 in
set_option maxHeartbeats 4000000 in
theorem iCt_many (p : Option Addr) (m c : Nat) (w : World) (h : 20 < m) :
    Calls Try.prog 38 #[.slice p m c] w fun e w' => e = .returned (.tuple #[.slice none 0 0, .int .i64 2]) ∧ Below w.heap.size w w' := by
  have h1 : ¬ (m : Int) < 1 := by omega
  have h2 : (20 : Int) < (m : Int) := by omega
  go_enter Try.func38, Try.ntmps38
  go_wp2
  go_ret2
  exact ⟨rfl, Below.refl _ _⟩
set_option maxRecDepth 100000 in
set_option maxHeartbeats 4000000 in
theorem iCt_each (p : Option Addr) (m c : Nat) (xs : List Int) (w : World) (hl : xs.length = m) (hr : SeesI w p xs) (h1 : 1 ≤ m) (h2 : m ≤ 20) (h : ¬ eachF (m : Int) xs) :
    Calls Try.prog 38 #[.slice p m c] w fun e w' => e = .returned (.tuple #[.slice none 0 0, .int .i64 2]) ∧ Below w.heap.size w w' := by
  have H := hid h
  have Hl := hid hl
  have Hr := hid hr
  have g1 : ¬ (m : Int) < 1 := by omega
  have g2 : ¬ (20 : Int) < (m : Int) := by omega
  clear h hl hr
  go_enter Try.func38, Try.ntmps38
  go_wp2_with fail
  refine (iEach_any _ _ _ _ xs _ (by omega) (by omega) (by omega) Hl.out Hr.out).mono ?_
  rw [decide_eq_false H.out]
  rintro e w2 ⟨rfl, hb2⟩
  go_wp2
  go_ret2
  exact ⟨rfl, hb2⟩
theorem iCycleTypeOf_any (p : Option Addr) (m c : Nat) (xs : List Int) (w : World) (_hm : m ≤ 1048576) (hl : xs.length = m) (hr : SeesI w p xs) :
    Calls Try.prog 38 #[.slice p m c] w fun e w' => ∃ q cap, e = .returned (.tuple #[.slice q (fCycleTypeOf xs).1.length cap, .int .i64 (fCycleTypeOf xs).2]) ∧ FreshI w.heap.size w' q (fCycleTypeOf xs).1.length cap (fCycleTypeOf xs).1 ∧ Below w.heap.size w w' := by
  by_cases h : 1 ≤ m ∧ m ≤ 20
  · by_cases he : eachF (m : Int) xs
    · rw [fCt_yes hl h.1 h.2 he]
      rcases hr with rfl | ⟨b, off, rfl, hr⟩
      · simp at hl; omega
      · exact iCt_yes b off m c xs w h.1 h.2 hl hr he
    · rw [fCt_no hl (fun k => he k.2)]
      exact (iCt_each p m c xs w hl hr h.1 h.2 he).mono fun e w' ⟨h1, h2⟩ => ⟨none, 0, h1, FreshI.nil _ _, h2⟩
  · rw [fCt_no hl (fun k => h k.1)]
    by_cases h0 : m < 1
    · exact (iCt_none p m c w h0).mono fun e w' ⟨h1, h2⟩ => ⟨none, 0, h1, FreshI.nil _ _, h2⟩
    · exact (iCt_many p m c w (by omega)).mono fun e w' ⟨h1, h2⟩ => ⟨none, 0, h1, FreshI.nil _ _, h2⟩

end Go.Proofs.Ytbimllpfbgjajaa
