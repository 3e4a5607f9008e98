/- The laws' comparisons of edges and graphs. -/
import Derived.Test.YtfdlhdgmbjdhbaaLawsA
import Derived.Deep.QuietTactic
import Derived.BigQuiet
import Derived.StillTailTactics
namespace Go.Proofs.Ytfdlhdgmbjdhbaa
open Go.RowKit

set_option maxHeartbeats 1000000 in
theorem eqEdge_eq (x0 x1 : Int) (w : World) :
    Calls Try.prog 79 #[.agg #[.int .i64 x0, .int .i64 x1], .agg #[.int .i64 x0, .int .i64 x1]] w fun e w' => e = .returned (.bool true) ∧ Below w.heap.size w w' := by
  go_enter Try.func79, Try.ntmps79
  go_wp2
  refine wp_loop_rounds 3 ?_
  rw [rounds_succ]
  go_wp2
  go_quiet (fail)
  go_wp2
  rw [rounds_succ]
  go_wp2
  go_quiet (fail)
  go_wp2
  rw [rounds_succ]
  go_wp2
  go_returns
  exact ⟨rfl, by simp only [bdn]; go_grown⟩

set_option maxHeartbeats 1000000 in
theorem eqEdge_ne0 (x0 x1 y0 y1 : Int) (w : World) (h0 : (x0 != y0) = true) :
    Calls Try.prog 79 #[.agg #[.int .i64 x0, .int .i64 x1], .agg #[.int .i64 y0, .int .i64 y1]] w fun e w' => e = .returned (.bool false) ∧ Below w.heap.size w w' := by
  go_enter Try.func79, Try.ntmps79
  go_wp2
  refine wp_loop_rounds 3 ?_
  rw [rounds_succ]
  go_wp2
  go_quiet (fail)
  go_wp2
  go_returns
  exact ⟨rfl, by simp only [bdn]; go_grown⟩

set_option maxHeartbeats 1000000 in
theorem eqEdge_ne1 (x0 x1 y1 : Int) (w : World) (h1 : (x1 != y1) = true) :
    Calls Try.prog 79 #[.agg #[.int .i64 x0, .int .i64 x1], .agg #[.int .i64 x0, .int .i64 y1]] w fun e w' => e = .returned (.bool false) ∧ Below w.heap.size w w' := by
  go_enter Try.func79, Try.ntmps79
  go_wp2
  refine wp_loop_rounds 3 ?_
  rw [rounds_succ]
  go_wp2
  go_quiet (fail)
  go_wp2
  rw [rounds_succ]
  go_wp2
  go_quiet (fail)
  go_wp2
  go_returns
  exact ⟨rfl, by simp only [bdn]; go_grown⟩

theorem eqEdge_any (x0 x1 y0 y1 : Int) (w : World) :
    Calls Try.prog 79 #[.agg #[.int .i64 x0, .int .i64 x1], .agg #[.int .i64 y0, .int .i64 y1]] w fun e w' => e = .returned (.bool (x0 == y0 && x1 == y1)) ∧ Below w.heap.size w w' := by
  by_cases h0 : x0 = y0
  · subst h0
    by_cases h1 : x1 = y1
    · subst h1
      refine (eqEdge_eq x0 x1 w).mono fun e w' ⟨he, hb⟩ => ⟨by rw [he]; simp, hb⟩
    · refine (eqEdge_ne1 x0 x1 y1 w (by simpa using h1)).mono fun e w' ⟨he, hb⟩ => ⟨by rw [he]; simp [h1], hb⟩
  · refine (eqEdge_ne0 x0 x1 y0 y1 w (by simpa using h0)).mono fun e w' ⟨he, hb⟩ => ⟨by rw [he]; simp [h0], hb⟩

theorem eqEdge_yes (x0 x1 y0 y1 : Int) (w : World) (h : x0 = y0 ∧ x1 = y1) :
    Calls Try.prog 79 #[.agg #[.int .i64 x0, .int .i64 x1], .agg #[.int .i64 y0, .int .i64 y1]] w fun e w' => e = .returned (.bool true) ∧ Below w.heap.size w w' := by
  obtain ⟨rfl, rfl⟩ := h
  exact eqEdge_eq _ _ _

theorem eqEdge_no (x0 x1 y0 y1 : Int) (w : World) (h : ¬ (x0 = y0 ∧ x1 = y1)) :
    Calls Try.prog 79 #[.agg #[.int .i64 x0, .int .i64 x1], .agg #[.int .i64 y0, .int .i64 y1]] w fun e w' => e = .returned (.bool false) ∧ Below w.heap.size w w' :=
  (eqEdge_any x0 x1 y0 y1 w).mono fun e w' ⟨he, hb⟩ => ⟨by rw [he]; congr 2; simpa using h, hb⟩

set_option maxRecDepth 100000 in
set_option maxHeartbeats 1000000 in
theorem eqEdgeS_len (p q : Option Addr) (n m c d : Nat) (w : World) (_hn : n ≤ 9223372036854775807) (_hm : m ≤ 9223372036854775807) (hne : ¬ n = m) :
    Calls Try.prog 40 #[.slice p n c, .slice q m d] w fun e w' => e = .returned (.bool false) ∧ Below w.heap.size w w' := by
  have hne' : ((n : Int) != (m : Int)) = true := by simp; omega
  clear hne
  go_enter Try.func40, Try.ntmps40
  go_wp2
  go_returns
  exact ⟨rfl, Below.refl _ _⟩

set_option maxRecDepth 100000 in
set_option maxHeartbeats 1000000 in
theorem eqEdgeS_nil (p q : Option Addr) (c d : Nat) (w : World) :
    Calls Try.prog 40 #[.slice p 0 c, .slice q 0 d] w fun e w' => e = .returned (.bool true) ∧ Below w.heap.size w w' := by
  go_enter Try.func40, Try.ntmps40
  go_wp2
  go_rounds 1
  go_returns
  exact ⟨rfl, Below.refl _ _⟩

set_option maxRecDepth 100000 in
set_option maxHeartbeats 1000000 in
theorem eqEdgeS_cells (b off b' off' n c d : Nat) (xs ys : List (Int × Int)) (w : World) (hx : xs.length = n) (hy : ys.length = n) (hn : n ≤ 9223372036854775807) (hr : ReadsE w b off xs) (hs : ReadsE w b' off' ys) :
    Calls Try.prog 40 #[.slice (some ⟨b, off, none⟩) n c, .slice (some ⟨b', off', none⟩) n d] w fun e w' => e = .returned (.bool (xs == ys)) ∧ Below w.heap.size w w' := by
  have Hx := hid hx
  have Hy := hid hy
  have Hr := hid hr
  have Hs := hid hs
  clear hx hy hr hs
  go_enter Try.func40, Try.ntmps40
  go_wp2
  go_loopw [5] (fun i wr => ∃ k : Nat, k ≤ n ∧ i = .int .i64 k ∧ Hid (xs.take k = ys.take k) ∧ Below w.heap.size w wr) (fun i _ => n - (intOf i).toNat)
  case atStart => exact ⟨0, Nat.zero_le _, rfl, hid rfl, Below.refl _ _⟩
  case round =>
    obtain ⟨k, hk, rfl, hE, hB⟩ := hrel
    by_cases hlt : k < n
    · have hbb : b < w.heap.size := reads_lt Hr.out (by have := Hx.out; omega)
      have hbb' : b' < w.heap.size := reads_lt Hs.out (by have := Hy.out; omega)
      have hc1 := (Hr.out.below hB hbb k (by have := Hx.out; omega)).1
      have hc2 := (Hr.out.below hB hbb k (by have := Hx.out; omega)).2
      have hc3 := (Hs.out.below hB hbb' k (by have := Hy.out; omega)).1
      have hc4 := (Hs.out.below hB hbb' k (by have := Hy.out; omega)).2
      by_cases hh : eA xs k = eA ys k ∧ eB xs k = eB ys k
      · have HH := hid hh
        clear hh
        go_wp2
        go_still_tail 8, (by kernel_rfl)
        go_wp2_with (go_at_call 79; refine (eqEdge_yes _ _ _ _ _ HH.out).mono ?_; rintro e w2 ⟨rfl, hb2⟩)
        go_roundw
        case rel => exact ⟨k + 1, by omega, by go_num, hid (take_step Hx.out Hy.out hlt hE HH.out), hB.drew.trans (hb2.mono hB.size)⟩
        case measure => simp [intOf]; omega
      · have HH := hid hh
        clear hh
        go_wp2
        go_still_tail 8, (by kernel_rfl)
        go_wp2_with (go_at_call 79; refine (eqEdge_no _ _ _ _ _ HH.out).mono ?_; rintro e w2 ⟨rfl, hb2⟩)
        go_ret
        exact ⟨by rw [ne_of_part HH.out]; rfl, hB.drew.trans (hb2.mono hB.size)⟩
    · go_wp2
      go_returns
      obtain rfl : k = n := by omega
      have h := hE.out
      rw [List.take_of_length_le (by have := Hx.out; omega), List.take_of_length_le (by have := Hy.out; omega)] at h
      exact ⟨by rw [h]; simp, hB⟩

theorem eqEdgeS_any (p q : Option Addr) (n m c d : Nat) (xs ys : List (Int × Int)) (w : World) (hx : xs.length = n) (hy : ys.length = m) (hn : n ≤ 9223372036854775807) (hm : m ≤ 9223372036854775807) (hp : SeesE w p xs) (hq : SeesE w q ys) :
    Calls Try.prog 40 #[.slice p n c, .slice q m d] w fun e w' => e = .returned (.bool (xs == ys)) ∧ Below w.heap.size w w' := by
  by_cases hl : n = m
  · subst hl
    rcases hp with rfl | ⟨b, off, rfl, hr⟩
    · obtain rfl : n = 0 := by simpa using hx.symm
      obtain rfl : ys = [] := List.eq_nil_of_length_eq_zero hy
      exact eqEdgeS_nil _ _ _ _ _
    · rcases hq with rfl | ⟨b', off', rfl, hs⟩
      · obtain rfl : n = 0 := by simpa using hy.symm
        obtain rfl : xs = [] := List.eq_nil_of_length_eq_zero hx
        exact eqEdgeS_nil _ _ _ _ _
      · exact eqEdgeS_cells b off b' off' n c d xs ys w hx hy hn hr hs
  · refine (eqEdgeS_len p q n m c d w hn hm hl).mono fun e w' ⟨he, hb⟩ => ⟨?_, hb⟩
    rw [he, beq_eq_false_iff_ne.2 (fun e => hl (by rw [← hx, ← hy, e]))]

set_option maxRecDepth 100000 in
set_option maxHeartbeats 1000000 in
theorem eqGraph_ne (s t : Int) (p q : Option Addr) (n m c d : Nat) (w : World) (h : (s != t) = true) :
    Calls Try.prog 10 #[.agg #[.int .i64 s, .slice p n c], .agg #[.int .i64 t, .slice q m d]] w fun e w' => e = .returned (.bool false) ∧ Below w.heap.size w w' := by
  go_enter Try.func10, Try.ntmps10
  go_wp2
  go_returns
  exact ⟨rfl, by go_grown⟩

set_option maxRecDepth 100000 in
set_option maxHeartbeats 1000000 in
theorem eqGraph_same (s : Int) (p q : Option Addr) (n m c d : Nat) (xs ys : List (Int × Int)) (w : World) (hx : xs.length = n) (hy : ys.length = m) (hn : n ≤ 9223372036854775807) (hm : m ≤ 9223372036854775807) (hp : SeesE w p xs) (hq : SeesE w q ys) :
    Calls Try.prog 10 #[.agg #[.int .i64 s, .slice p n c], .agg #[.int .i64 s, .slice q m d]] w fun e w' => e = .returned (.bool (xs == ys)) ∧ Below w.heap.size w w' := by
  have Hx := hid hx
  have Hy := hid hy
  have Hp := hid hp
  have Hq := hid hq
  clear hx hy hp hq
  obtain ⟨r, hr⟩ : ∃ r, r = (xs == ys) := ⟨_, rfl⟩
  rw [← hr]
  have HR := hid hr
  clear hr
  go_enter Try.func10, Try.ntmps10
  cases r
  all_goals
    go_wp2_with (go_at_call 40; refine (eqEdgeS_any _ _ _ _ _ _ xs ys _ Hx.out Hy.out hn hm ?_ ?_).mono ?_; rotate_left; rotate_left; rw [← HR.out]; rintro e w2 ⟨rfl, hb2⟩)
  all_goals first
    | exact (Hp.out.alloc _).alloc _
    | exact (Hq.out.alloc _).alloc _
    | (go_ret; exact ⟨rfl, (show Below w.heap.size w _ by go_grown).trans (hb2.mono (by simp; omega))⟩)

theorem eqGraph_any (s t : Int) (p q : Option Addr) (n m c d : Nat) (xs ys : List (Int × Int)) (w : World) (hx : xs.length = n) (hy : ys.length = m) (hn : n ≤ 9223372036854775807) (hm : m ≤ 9223372036854775807) (hp : SeesE w p xs) (hq : SeesE w q ys) :
    Calls Try.prog 10 #[.agg #[.int .i64 s, .slice p n c], .agg #[.int .i64 t, .slice q m d]] w fun e w' => e = .returned (.bool (s == t && xs == ys)) ∧ Below w.heap.size w w' := by
  by_cases h : s = t
  · subst h
    exact (eqGraph_same s p q n m c d xs ys w hx hy hn hm hp hq).mono fun e w' ⟨he, hb⟩ => ⟨by rw [he]; simp, hb⟩
  · exact (eqGraph_ne s t p q n m c d w (by simpa using h)).mono fun e w' ⟨he, hb⟩ => ⟨by rw [he]; simp [h], hb⟩

end Go.Proofs.Ytfdlhdgmbjdhbaa
