/- The order by which the program sorts edges: cmp.Compare, slices.Compare at two numbers each, and the closure handed to the sort. -/
import Derived.Test.YtafiockejagapaaImplC
namespace Go.Proofs.Ytafiockejagapaa
open Go.RowKit

set_option maxHeartbeats 400000 in
theorem isNaN_any (x : Int) (w : World) : Calls Try.prog 162 #[.int .i64 x] w fun e w' => e = .returned (.bool false) ∧ w = w' := by
  go_enter Try.func162, Try.ntmps162
  go_wp2
  go_ret
  exact ⟨rfl, rfl⟩

set_option maxHeartbeats 400000 in
theorem cmp_lt (x y : Int) (w : World) (h : x < y) : Calls Try.prog 164 #[.int .i64 x, .int .i64 y] w fun e w' => e = .returned (.int .i64 (-1)) ∧ w = w' := by
  go_enter Try.func164, Try.ntmps164
  go_wp2_with (go_at_call 162; refine (isNaN_any _ _).mono ?_; rintro e w' ⟨rfl, rfl⟩)
  go_ret
  exact ⟨rfl, rfl⟩

set_option maxHeartbeats 400000 in
theorem cmp_gt (x y : Int) (w : World) (h : y < x) : Calls Try.prog 164 #[.int .i64 x, .int .i64 y] w fun e w' => e = .returned (.int .i64 1) ∧ w = w' := by
  have h1 : decide (x < y) = false := by simp; omega
  go_enter Try.func164, Try.ntmps164
  go_wp2_with (go_at_call 162; refine (isNaN_any _ _).mono ?_; rintro e w' ⟨rfl, rfl⟩)
  go_ret
  exact ⟨rfl, rfl⟩

set_option maxHeartbeats 400000 in
theorem cmp_eq (x : Int) (w : World) : Calls Try.prog 164 #[.int .i64 x, .int .i64 x] w fun e w' => e = .returned (.int .i64 0) ∧ w = w' := by
  have h1 : decide (x < x) = false := by simp
  go_enter Try.func164, Try.ntmps164
  go_wp2_with (go_at_call 162; refine (isNaN_any _ _).mono ?_; rintro e w' ⟨rfl, rfl⟩)
  go_ret
  exact ⟨rfl, rfl⟩

def cmp3 (x y : Int) : Int := if x < y then -1 else if y < x then 1 else 0

theorem cmp_any (x y : Int) (w : World) : Calls Try.prog 164 #[.int .i64 x, .int .i64 y] w fun e w' => e = .returned (.int .i64 (cmp3 x y)) ∧ w = w' := by
  unfold cmp3
  by_cases h1 : x < y
  · rw [if_pos h1]; exact cmp_lt x y w h1
  · by_cases h2 : y < x
    · rw [if_neg h1, if_pos h2]; exact cmp_gt x y w h2
    · obtain rfl : x = y := by omega
      rw [if_neg h1, if_neg h1]; exact cmp_eq x w

def cmpE (a b : Int × Int) : Int := if cmp3 a.1 b.1 = 0 then cmp3 a.2 b.2 else cmp3 a.1 b.1

set_option maxRecDepth 100000 in
set_option maxHeartbeats 1000000 in
theorem compare2_first (g h : Nat) (a0 b0 q : Int) (w : World) (hx : w.cell? ⟨g, 0, none⟩ = some (.int .i64 a0)) (hy : w.cell? ⟨h, 0, none⟩ = some (.int .i64 b0)) (hq : cmp3 a0 b0 = q) (hn : (q != 0) = true) :
    Calls Try.prog 152 #[.slice (some ⟨g, 0, none⟩) 2 2, .slice (some ⟨h, 0, none⟩) 2 2] w fun e w' => e = .returned (.int .i64 q) ∧ w = w' := by
  have HQ := hid hq
  clear hq
  go_enter Try.func152, Try.ntmps152
  go_wp2
  refine wp_loop_rounds 3 ?_
  rw [rounds_succ]
  go_wp2_with (go_at_call 164; refine (cmp_any _ _ _).mono ?_; rw [HQ.out]; rintro e w' ⟨rfl, rfl⟩)
  go_ret
  exact ⟨rfl, rfl⟩

set_option maxRecDepth 100000 in
set_option maxHeartbeats 1000000 in
theorem compare2_second (g h : Nat) (a0 a1 b1 q : Int) (w : World) (hx : w.cell? ⟨g, 0, none⟩ = some (.int .i64 a0)) (hy : w.cell? ⟨h, 0, none⟩ = some (.int .i64 a0)) (hx1 : w.cell? ⟨g, 1, none⟩ = some (.int .i64 a1)) (hy1 : w.cell? ⟨h, 1, none⟩ = some (.int .i64 b1)) (hq : cmp3 a1 b1 = q) :
    Calls Try.prog 152 #[.slice (some ⟨g, 0, none⟩) 2 2, .slice (some ⟨h, 0, none⟩) 2 2] w fun e w' => e = .returned (.int .i64 q) ∧ w = w' := by
  have HQ := hid hq
  clear hq
  by_cases hn : q = 0
  · subst hn
    go_enter Try.func152, Try.ntmps152
    go_wp2
    refine wp_loop_rounds 3 ?_
    rw [rounds_succ]
    go_wp2_with (go_at_call 164; refine (cmp_eq _ _).mono ?_; rintro e w' ⟨rfl, rfl⟩)
    rw [rounds_succ]
    go_wp2_with (go_at_call 164; refine (cmp_any _ _ _).mono ?_; rw [HQ.out]; rintro e w' ⟨rfl, rfl⟩)
    rw [rounds_succ]
    go_wp2
    go_ret
    exact ⟨rfl, rfl⟩
  · have hn' : (q != 0) = true := by simpa using hn
    clear hn
    go_enter Try.func152, Try.ntmps152
    go_wp2
    refine wp_loop_rounds 3 ?_
    rw [rounds_succ]
    go_wp2_with (go_at_call 164; refine (cmp_eq _ _).mono ?_; rintro e w' ⟨rfl, rfl⟩)
    rw [rounds_succ]
    go_wp2_with (go_at_call 164; refine (cmp_any _ _ _).mono ?_; rw [HQ.out]; rintro e w' ⟨rfl, rfl⟩)
    go_ret
    exact ⟨rfl, rfl⟩

theorem cmp3_zero (x y : Int) : cmp3 x y = 0 ↔ x = y := by
  unfold cmp3
  by_cases h1 : x < y
  · rw [if_pos h1]; constructor
    · intro h; cases h
    · intro h; omega
  · by_cases h2 : y < x
    · rw [if_neg h1, if_pos h2]; constructor
      · intro h; cases h
      · intro h; omega
    · rw [if_neg h1, if_neg h2]; constructor
      · intro _; omega
      · intro _; rfl

theorem compare2_any (g h : Nat) (a0 a1 b0 b1 : Int) (w : World) (hx : w.cell? ⟨g, 0, none⟩ = some (.int .i64 a0)) (hy : w.cell? ⟨h, 0, none⟩ = some (.int .i64 b0)) (hx1 : w.cell? ⟨g, 1, none⟩ = some (.int .i64 a1)) (hy1 : w.cell? ⟨h, 1, none⟩ = some (.int .i64 b1)) :
    Calls Try.prog 152 #[.slice (some ⟨g, 0, none⟩) 2 2, .slice (some ⟨h, 0, none⟩) 2 2] w fun e w' => e = .returned (.int .i64 (cmpE (a0, a1) (b0, b1))) ∧ w = w' := by
  unfold cmpE
  by_cases h0 : cmp3 a0 b0 = 0
  · obtain rfl := (cmp3_zero a0 b0).1 h0
    simp only [h0, if_true]
    exact compare2_second g h a0 a1 b1 _ w hx hy hx1 hy1 rfl
  · simp only [h0, if_false]
    exact compare2_first g h a0 b0 _ w hx hy rfl (by simpa using h0)

theorem compare2_r (g h : Nat) (a0 a1 b0 b1 r : Int) (w : World) (hr : cmpE (a0, a1) (b0, b1) = r) (hx : w.cell? ⟨g, 0, none⟩ = some (.int .i64 a0)) (hy : w.cell? ⟨h, 0, none⟩ = some (.int .i64 b0)) (hx1 : w.cell? ⟨g, 1, none⟩ = some (.int .i64 a1)) (hy1 : w.cell? ⟨h, 1, none⟩ = some (.int .i64 b1)) :
    Calls Try.prog 152 #[.slice (some ⟨g, 0, none⟩) 2 2, .slice (some ⟨h, 0, none⟩) 2 2] w fun e w' => e = .returned (.int .i64 r) ∧ w = w' := by
  subst hr
  exact compare2_any g h a0 a1 b0 b1 w hx hy hx1 hy1

set_option maxHeartbeats 1000000 in
/-- The closure: two blocks are laid, and perhaps something is drawn. -/
theorem closure_any (a0 a1 b0 b1 : Int) (w : World) :
    Calls Try.prog 151 #[.agg #[.int .i64 a0, .int .i64 a1], .agg #[.int .i64 b0, .int .i64 b1]] w fun e w' => e = .returned (.int .i64 (cmpE (a0, a1) (b0, b1))) ∧
      ∃ q, w' = ((w.alloc (.cells #[.int .i64 a0, .int .i64 a1] 61)).alloc (.cells #[.int .i64 b0, .int .i64 b1] 61)).drewN q := by
  obtain ⟨r, hr⟩ : ∃ r, cmpE (a0, a1) (b0, b1) = r := ⟨_, rfl⟩
  rw [hr]
  have HR := hid hr
  clear hr
  go_enter Try.func151, Try.ntmps151
  go_wp2
  go_quiet ((go_at_call 152; refine quiet_same (compare2_r _ _ a0 a1 b0 b1 r _ HR.out ?_ ?_ ?_ ?_) <;> simp))
  go_wp2
  go_ret
  exact ⟨rfl, _, rfl⟩

end Go.Proofs.Ytafiockejagapaa
