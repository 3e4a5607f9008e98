/- Edges compared by == and !=, and slices.Equal at edges. -/
import Derived.Test.YtafiockejagapaaImplB
import Derived.Laws.StructEq
namespace Go.Proofs.Ytafiockejagapaa
open Go.RowKit

theorem edge_equal (a b c d : Int) (w : World) : (Op.equal 61 (.agg #[.int .i64 a, .int .i64 b]) (.agg #[.int .i64 c, .int .i64 d])).run Try.prog w = .ok (a == c && b == d) w := by
  unfold Op.equal
  rw [show Op.maxDepth = 9998 + 1 + 1 from rfl, Op.equalIn]
  simp only [Sem.run_bind, run_underlying Try.underlying61, Result.andThen_ok]
  simp only [Std.Legacy.Range.forIn_eq_forIn_range', Std.Legacy.Range.size]
  rw [Try.sizeOf2, Result.andThen_ok, show List.range' 0 ((2 - 0 + 1 - 1) / 1) = [0, 1] from rfl]
  simp only [List.forIn_cons, List.forIn_nil, Sem.run_bind]
  by_cases h1 : a = c
  · subst h1
    by_cases h2 : b = d
    · subst h2
      go_simp
    · have h2' : (b == d) = false := by simpa using h2
      go_simp
  · have h1' : (a == c) = false := by simpa using h1
    go_simp

theorem edge_neq (a b c d : Int) (w : World) : (binOp .neq 61 (.agg #[.int .i64 a, .int .i64 b]) (.agg #[.int .i64 c, .int .i64 d])).run Try.prog w = .ok (.bool (!(a == c && b == d))) w := by
  simp only [binOp, Sem.run_bind]
  rw [edge_equal]
  rfl

theorem edge_eql (a b c d : Int) (w : World) : (binOp .eql 61 (.agg #[.int .i64 a, .int .i64 b]) (.agg #[.int .i64 c, .int .i64 d])).run Try.prog w = .ok (.bool (a == c && b == d)) w := by
  simp only [binOp, Sem.run_bind]
  rw [edge_equal]
  rfl

set_option maxRecDepth 100000 in
set_option maxHeartbeats 1000000 in
theorem equalE_len (p q : Option Addr) (n m c d : Nat) (w : World) (_hn : n ≤ 9223372036854775807) (_hm : m ≤ 9223372036854775807) (hne : ¬ n = m) :
    Calls Try.prog 100 #[.slice p n c, .slice q m d] w fun e w' => e = .returned (.bool false) ∧ Below w.heap.size w w' := by
  have hne' : ((n : Int) != (m : Int)) = true := by simp; omega
  clear hne
  go_enter Try.func100, Try.ntmps100
  go_wp2
  go_ret
  exact ⟨rfl, Below.refl _ _⟩

set_option maxRecDepth 100000 in
set_option maxHeartbeats 1000000 in
theorem equalE_nil (p q : Option Addr) (c d : Nat) (w : World) :
    Calls Try.prog 100 #[.slice p 0 c, .slice q 0 d] w fun e w' => e = .returned (.bool true) ∧ Below w.heap.size w w' := by
  go_enter Try.func100, Try.ntmps100
  go_wp2
  go_rounds 1
  go_ret
  exact ⟨rfl, Below.refl _ _⟩

set_option maxRecDepth 100000 in
set_option maxHeartbeats 1000000 in
theorem equalE_cells (b off b' off' n c d : Nat) (xs ys : List (Int × Int)) (w : World) (hx : xs.length = n) (hy : ys.length = n) (hn : n ≤ 9223372036854775807) (hr : ReadsE w b off xs) (hs : ReadsE w b' off' ys) :
    Calls Try.prog 100 #[.slice (some ⟨b, off, none⟩) n c, .slice (some ⟨b', off', none⟩) n d] w fun e w' => e = .returned (.bool (xs == ys)) ∧ Below w.heap.size w w' := by
  have Hx := hid hx
  have Hy := hid hy
  have Hr := hid hr
  have Hs := hid hs
  clear hx hy hr hs
  go_enter Try.func100, Try.ntmps100
  go_wp2
  go_loopw [13] (fun i wr => ∃ k : Nat, k ≤ n ∧ i = .int .i64 k ∧ Hid (xs.take k = ys.take k) ∧ Below w.heap.size w wr) (fun i _ => n - (intOf i).toNat)
  case atStart => exact ⟨0, Nat.zero_le _, rfl, hid rfl, Below.refl _ _⟩
  case round =>
    obtain ⟨k, hk, rfl, hE, hB⟩ := hrel
    by_cases hlt : k < n
    · have hbb : b < w.heap.size := reads_lt Hr.out (by have := Hx.out; omega)
      have hbb' : b' < w.heap.size := reads_lt Hs.out (by have := Hy.out; omega)
      have hc1 := (Hr.out.below hB hbb k (by have := Hx.out; omega)).1
      have hc2 := (Hr.out.below hB hbb k (by have := Hx.out; omega)).2
      have hc3 := (Hs.out.below hB hbb' k (by have := Hy.out; omega)).1
      have hc4 := (Hs.out.below hB hbb' k (by have := Hy.out; omega)).2
      have hne := edge_neq (eA xs k) (eB xs k) (eA ys k) (eB ys k)
      by_cases hh : eA xs k = eA ys k ∧ eB xs k = eB ys k
      · have HH := hid hh
        rw [show (!(eA xs k == eA ys k && eB xs k == eB ys k)) = false by simpa using hh] at hne
        clear hh
        go_wp2
        go_quiet (fail)
        go_wp2
        go_roundw
        case rel => exact ⟨k + 1, by omega, by go_num, hid (take_step Hx.out Hy.out hlt hE HH.out), by simp only [bdn]; exact hB⟩
        case measure => simp [intOf]; omega
      · have HH := hid hh
        rw [show (!(eA xs k == eA ys k && eB xs k == eB ys k)) = true by simp only [Bool.not_eq_true', Bool.and_eq_false_iff, beq_eq_false_iff_ne]; by_cases e : eA xs k = eA ys k; exact .inr (fun e2 => hh ⟨e, e2⟩); exact .inl e] at hne
        clear hh
        go_wp2
        go_quiet (fail)
        go_wp2
        go_ret
        exact ⟨by rw [ne_of_part HH.out]; rfl, by simp only [bdn]; exact hB⟩
    · go_wp2
      go_ret
      obtain rfl : k = n := by omega
      have h := hE.out
      rw [List.take_of_length_le (by have := Hx.out; omega), List.take_of_length_le (by have := Hy.out; omega)] at h
      exact ⟨by rw [h]; simp, hB⟩

theorem equalE_any (p q : Option Addr) (n m c d : Nat) (xs ys : List (Int × Int)) (w : World) (hx : xs.length = n) (hy : ys.length = m) (hn : n ≤ 9223372036854775807) (hm : m ≤ 9223372036854775807) (hp : SeesE w p xs) (hq : SeesE w q ys) :
    Calls Try.prog 100 #[.slice p n c, .slice q m d] w fun e w' => e = .returned (.bool (xs == ys)) ∧ Below w.heap.size w w' := by
  by_cases hl : n = m
  · subst hl
    rcases hp with rfl | ⟨b, off, rfl, hr⟩
    · obtain rfl : n = 0 := by simpa using hx.symm
      obtain rfl : ys = [] := List.eq_nil_of_length_eq_zero hy
      exact equalE_nil _ _ _ _ _
    · rcases hq with rfl | ⟨b', off', rfl, hs⟩
      · obtain rfl : n = 0 := by simpa using hy.symm
        obtain rfl : xs = [] := List.eq_nil_of_length_eq_zero hx
        exact equalE_nil _ _ _ _ _
      · exact equalE_cells b off b' off' n c d xs ys w hx hy hn hr hs
  · refine (equalE_len p q n m c d w hn hm hl).mono fun e w' ⟨he, hb⟩ => ⟨?_, hb⟩
    rw [he, beq_eq_false_iff_ne.2 (fun e => hl (by rw [← hx, ← hy, e]))]

end Go.Proofs.Ytafiockejagapaa
