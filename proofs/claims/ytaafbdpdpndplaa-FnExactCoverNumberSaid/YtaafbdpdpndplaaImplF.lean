/- The program's GraphOf and IsGraph. -/
import Derived.Test.YtaafbdpdpndplaaRowsE
import Derived.Shelf.SlSortCmp.WholeK
import Derived.Test.YtaafbdpdpndplaaImplB
import Derived.Laws.StructEq
import Derived.Test.YtaafbdpdpndplaaShelfE
import Derived.Shelf.SlSortCmp.NoneTotal

/- What the library's sort leaves in memory, said of rows of edges. -/
namespace Go.Proofs.Ytaafbdpdpndplaa
open Go.RowKit Go.Lib Go.Sort Go.Shelf

def encE (e : Int × Int) : List Value := [.int .i64 e.1, .int .i64 e.2]

theorem getElem!_toArray (es : List (Int × Int)) (i : Nat) (h : i < es.length) : es.toArray[i]! = (eA es i, eB es i) := by
  rw [getElem!_pos _ i (by simpa using h)]
  simp [eA_lt h, eB_lt h]

theorem flat_even (es : List (Int × Int)) (i : Nat) (h : i < es.length) : (flatK encE 2 es.toArray)[i * 2]! = .int .i64 (eA es i) := by
  rw [get_flatK _ _ _ _ (by simp; omega), show i * 2 / 2 = i by omega, show i * 2 % 2 = 0 by omega, getElem!_toArray es i h]
  rfl

theorem flat_odd (es : List (Int × Int)) (i : Nat) (h : i < es.length) : (flatK encE 2 es.toArray)[i * 2 + 1]! = .int .i64 (eB es i) := by
  rw [get_flatK _ _ _ _ (by simp; omega), show (i * 2 + 1) / 2 = i by omega, show (i * 2 + 1) % 2 = 1 by omega, getElem!_toArray es i h]
  rfl

theorem OwnE.holdsK {w : World} {g cap : Nat} {es : List (Int × Int)} (h : OwnE w g cap es) : HoldsK encE 2 w g 0 es.toArray := fun j hj => by
  have hj' : j < es.length * 2 := by simpa using hj
  refine ⟨?_, h.free _⟩
  obtain ⟨h1, h2⟩ := h.reads (j / 2) (by omega)
  rcases (by omega : j = j / 2 * 2 ∨ j = j / 2 * 2 + 1) with e | e
  · have h3 := flat_even es (j / 2) (by omega)
    rw [← e] at h1 h3
    rw [h1, h3]
    rfl
  · have h3 := flat_odd es (j / 2) (by omega)
    rw [Nat.add_assoc, ← e] at h2
    rw [← e] at h3
    rw [h2, h3]
    rfl

theorem heap_sortWorldK {w : World} {g n : Nat} {d : Array (Int × Int)} {os : Array Obj} {cur : Array Value} {t : TypeId} {fr : Nat × Nat} (h : w.heap[g]? = some (.cells cur t fr)) :
    (sortWorldK encE 2 w g 0 n d os).heap[g]? = some (.cells (putCells id 0 (flatK encE 2 d) cur) t fr) := by
  have hl : g < w.heap.size := (Array.getElem?_eq_some_iff.1 h).1
  unfold sortWorldK putRowK putRow grow mapBlock
  show ((w.heap.modify g _) ++ os)[g]? = _
  rw [Array.getElem?_append, if_pos (by simpa using hl), Array.getElem?_modify, if_pos rfl, h]
  rfl

theorem OwnE.sorted {w : World} {g cap n : Nat} {es fs : List (Int × Int)} {os : Array Obj} (h : OwnE w g cap es) (hl : fs.length = es.length) : OwnE (sortWorldK encE 2 w g 0 n fs.toArray os) g cap fs := by
  obtain ⟨cur, hc, hs, hle, hm, r⟩ := h
  refine ⟨_, heap_sortWorldK hc, by simp [putCells, hs], by omega, hm, fun i hi => ?_⟩
  have key : ∀ j, j < fs.length * 2 → (putCells id 0 (flatK encE 2 fs.toArray) cur)[j]? = some (flatK encE 2 fs.toArray)[j]! := fun j hj => by
    unfold putCells
    rw [Array.getElem?_mapIdx, Array.getElem?_eq_getElem (by omega)]
    simp [hj]
  rw [key _ (by omega), key _ (by omega), flat_even fs i hi, flat_odd fs i hi]
  exact ⟨rfl, rfl⟩

theorem below_sorted (w : World) (g n : Nat) (d : Array (Int × Int)) (os : Array Obj) (hg : g < w.heap.size) : RowKit.Below g w (sortWorldK encE 2 w g 0 n d os) := by
  refine ⟨rfl, rfl, rfl, ?_, fun k hk => ?_⟩
  · unfold sortWorldK putRowK putRow grow mapBlock
    show w.heap.size ≤ ((w.heap.modify g _) ++ os).size
    simp
  · unfold sortWorldK putRowK putRow grow mapBlock
    show ((w.heap.modify g _) ++ os)[k]? = _
    rw [Array.getElem?_append]
    rw [if_pos (by simp; omega), Array.getElem?_modify, if_neg (by omega)]

end Go.Proofs.Ytaafbdpdpndplaa

/- Edges compared by == and !=, and slices.Equal at edges. -/
namespace Go.Proofs.Ytaafbdpdpndplaa
open Go.RowKit

theorem edge_equal (a b c d : Int) (w : World) : (Op.equal 53 (.agg #[.int .i64 a, .int .i64 b]) (.agg #[.int .i64 c, .int .i64 d])).run Try.prog w = .ok (a == c && b == d) w := by
  unfold Op.equal
  rw [show Op.maxDepth = 9998 + 1 + 1 from rfl, Op.equalIn]
  simp only [Sem.run_bind, run_underlying Try.underlying53, Result.andThen_ok]
  simp only [Std.Legacy.Range.forIn_eq_forIn_range', Std.Legacy.Range.size]
  rw [Try.sizeOf2, Result.andThen_ok, show List.range' 0 ((2 - 0 + 1 - 1) / 1) = [0, 1] from rfl]
  simp only [List.forIn_cons, List.forIn_nil, Sem.run_bind]
  by_cases h1 : a = c
  · subst h1
    by_cases h2 : b = d
    · subst h2
      go_simp
    · have h2' : (b == d) = false := by simpa using h2
      go_simp
  · have h1' : (a == c) = false := by simpa using h1
    go_simp

theorem edge_neq (a b c d : Int) (w : World) : (binOp .neq 53 (.agg #[.int .i64 a, .int .i64 b]) (.agg #[.int .i64 c, .int .i64 d])).run Try.prog w = .ok (.bool (!(a == c && b == d))) w := by
  simp only [binOp, Sem.run_bind]
  rw [edge_equal]
  rfl

theorem edge_eql (a b c d : Int) (w : World) : (binOp .eql 53 (.agg #[.int .i64 a, .int .i64 b]) (.agg #[.int .i64 c, .int .i64 d])).run Try.prog w = .ok (.bool (a == c && b == d)) w := by
  simp only [binOp, Sem.run_bind]
  rw [edge_equal]
  rfl

set_option maxRecDepth 100000 in
set_option maxHeartbeats 1000000 in
theorem equalE_len (p q : Option Addr) (n m c d : Nat) (w : World) (_hn : n ≤ 9223372036854775807) (_hm : m ≤ 9223372036854775807) (hne : ¬ n = m) :
    Calls Try.prog 35 #[.slice p n c, .slice q m d] w fun e w' => e = .returned (.bool false) ∧ Below w.heap.size w w' := by
  have hne' : ((n : Int) != (m : Int)) = true := by simp; omega
  clear hne
  go_enter Try.func35, Try.ntmps35
  go_wp2
  go_ret
  exact ⟨rfl, Below.refl _ _⟩

set_option maxRecDepth 100000 in
set_option maxHeartbeats 1000000 in
theorem equalE_nil (p q : Option Addr) (c d : Nat) (w : World) :
    Calls Try.prog 35 #[.slice p 0 c, .slice q 0 d] w fun e w' => e = .returned (.bool true) ∧ Below w.heap.size w w' := by
  go_enter Try.func35, Try.ntmps35
  go_wp2
  go_rounds 1
  go_ret
  exact ⟨rfl, Below.refl _ _⟩

set_option maxRecDepth 100000 in
set_option maxHeartbeats 1000000 in
theorem equalE_cells (b off b' off' n c d : Nat) (xs ys : List (Int × Int)) (w : World) (hx : xs.length = n) (hy : ys.length = n) (hn : n ≤ 9223372036854775807) (hr : ReadsE w b off xs) (hs : ReadsE w b' off' ys) :
    Calls Try.prog 35 #[.slice (some ⟨b, off, none⟩) n c, .slice (some ⟨b', off', none⟩) n d] w fun e w' => e = .returned (.bool (xs == ys)) ∧ Below w.heap.size w w' := by
  have Hx := hid hx
  have Hy := hid hy
  have Hr := hid hr
  have Hs := hid hs
  clear hx hy hr hs
  go_enter Try.func35, Try.ntmps35
  go_wp2
  go_loopw [13] (fun i wr => ∃ k : Nat, k ≤ n ∧ i = .int .i64 k ∧ Hid (xs.take k = ys.take k) ∧ Below w.heap.size w wr) (fun i _ => n - (intOf i).toNat)
  case atStart => exact ⟨0, Nat.zero_le _, rfl, hid rfl, Below.refl _ _⟩
  case round =>
    obtain ⟨k, hk, rfl, hE, hB⟩ := hrel
    by_cases hlt : k < n
    · have hbb : b < w.heap.size := reads_lt Hr.out (by have := Hx.out; omega)
      have hbb' : b' < w.heap.size := reads_lt Hs.out (by have := Hy.out; omega)
      have hc1 := (Hr.out.below hB hbb k (by have := Hx.out; omega)).1
      have hc2 := (Hr.out.below hB hbb k (by have := Hx.out; omega)).2
      have hc3 := (Hs.out.below hB hbb' k (by have := Hy.out; omega)).1
      have hc4 := (Hs.out.below hB hbb' k (by have := Hy.out; omega)).2
      have hne := edge_neq (eA xs k) (eB xs k) (eA ys k) (eB ys k)
      by_cases hh : eA xs k = eA ys k ∧ eB xs k = eB ys k
      · have HH := hid hh
        rw [show (!(eA xs k == eA ys k && eB xs k == eB ys k)) = false by simpa using hh] at hne
        clear hh
        go_wp2
        go_quiet (fail)
        go_wp2
        go_roundw
        case rel => exact ⟨k + 1, by omega, by go_num, hid (take_step Hx.out Hy.out hlt hE HH.out), by simp only [bdn]; exact hB⟩
        case measure => simp [intOf]; omega
      · have HH := hid hh
        rw [show (!(eA xs k == eA ys k && eB xs k == eB ys k)) = true by simp only [Bool.not_eq_true', Bool.and_eq_false_iff, beq_eq_false_iff_ne]; by_cases e : eA xs k = eA ys k; exact .inr (fun e2 => hh ⟨e, e2⟩); exact .inl e] at hne
        clear hh
        go_wp2
        go_quiet (fail)
        go_wp2
        go_ret
        exact ⟨by rw [ne_of_part HH.out]; rfl, by simp only [bdn]; exact hB⟩
    · go_wp2
      go_ret
      obtain rfl : k = n := by omega
      have h := hE.out
      rw [List.take_of_length_le (by have := Hx.out; omega), List.take_of_length_le (by have := Hy.out; omega)] at h
      exact ⟨by rw [h]; simp, hB⟩

theorem equalE_any (p q : Option Addr) (n m c d : Nat) (xs ys : List (Int × Int)) (w : World) (hx : xs.length = n) (hy : ys.length = m) (hn : n ≤ 9223372036854775807) (hm : m ≤ 9223372036854775807) (hp : SeesE w p xs) (hq : SeesE w q ys) :
    Calls Try.prog 35 #[.slice p n c, .slice q m d] w fun e w' => e = .returned (.bool (xs == ys)) ∧ Below w.heap.size w w' := by
  by_cases hl : n = m
  · subst hl
    rcases hp with rfl | ⟨b, off, rfl, hr⟩
    · obtain rfl : n = 0 := by simpa using hx.symm
      obtain rfl : ys = [] := List.eq_nil_of_length_eq_zero hy
      exact equalE_nil _ _ _ _ _
    · rcases hq with rfl | ⟨b', off', rfl, hs⟩
      · obtain rfl : n = 0 := by simpa using hy.symm
        obtain rfl : xs = [] := List.eq_nil_of_length_eq_zero hx
        exact equalE_nil _ _ _ _ _
      · exact equalE_cells b off b' off' n c d xs ys w hx hy hn hr hs
  · refine (equalE_len p q n m c d w hn hm hl).mono fun e w' ⟨he, hb⟩ => ⟨?_, hb⟩
    rw [he, beq_eq_false_iff_ne.2 (fun e => hl (by rw [← hx, ← hy, e]))]

end Go.Proofs.Ytaafbdpdpndplaa

/- The order by which the program sorts edges: cmp.Compare, slices.Compare at two numbers each, and the closure handed to the sort. -/
namespace Go.Proofs.Ytaafbdpdpndplaa
open Go.RowKit

set_option maxHeartbeats 400000 in
theorem isNaN_any (x : Int) (w : World) : Calls Try.prog 68 #[.int .i64 x] w fun e w' => e = .returned (.bool false) ∧ w = w' := by
  go_enter Try.func68, Try.ntmps68
  go_wp2
  go_ret
  exact ⟨rfl, rfl⟩

set_option maxHeartbeats 400000 in
theorem cmp_lt (x y : Int) (w : World) (h : x < y) : Calls Try.prog 55 #[.int .i64 x, .int .i64 y] w fun e w' => e = .returned (.int .i64 (-1)) ∧ w = w' := by
  go_enter Try.func55, Try.ntmps55
  go_wp2_with (go_at_call 68; refine (isNaN_any _ _).mono ?_; rintro e w' ⟨rfl, rfl⟩)
  go_ret
  exact ⟨rfl, rfl⟩

set_option maxHeartbeats 400000 in
theorem cmp_gt (x y : Int) (w : World) (h : y < x) : Calls Try.prog 55 #[.int .i64 x, .int .i64 y] w fun e w' => e = .returned (.int .i64 1) ∧ w = w' := by
  have h1 : decide (x < y) = false := by simp; omega
  go_enter Try.func55, Try.ntmps55
  go_wp2_with (go_at_call 68; refine (isNaN_any _ _).mono ?_; rintro e w' ⟨rfl, rfl⟩)
  go_ret
  exact ⟨rfl, rfl⟩

set_option maxHeartbeats 400000 in
theorem cmp_eq (x : Int) (w : World) : Calls Try.prog 55 #[.int .i64 x, .int .i64 x] w fun e w' => e = .returned (.int .i64 0) ∧ w = w' := by
  have h1 : decide (x < x) = false := by simp
  go_enter Try.func55, Try.ntmps55
  go_wp2_with (go_at_call 68; refine (isNaN_any _ _).mono ?_; rintro e w' ⟨rfl, rfl⟩)
  go_ret
  exact ⟨rfl, rfl⟩

def cmp3 (x y : Int) : Int := if x < y then -1 else if y < x then 1 else 0

theorem cmp_any (x y : Int) (w : World) : Calls Try.prog 55 #[.int .i64 x, .int .i64 y] w fun e w' => e = .returned (.int .i64 (cmp3 x y)) ∧ w = w' := by
  unfold cmp3
  by_cases h1 : x < y
  · rw [if_pos h1]; exact cmp_lt x y w h1
  · by_cases h2 : y < x
    · rw [if_neg h1, if_pos h2]; exact cmp_gt x y w h2
    · obtain rfl : x = y := by omega
      rw [if_neg h1, if_neg h1]; exact cmp_eq x w

def cmpE (a b : Int × Int) : Int := if cmp3 a.1 b.1 = 0 then cmp3 a.2 b.2 else cmp3 a.1 b.1

set_option maxRecDepth 100000 in
set_option maxHeartbeats 1000000 in
theorem compare2_first (g h : Nat) (a0 b0 q : Int) (w : World) (hx : w.cell? ⟨g, 0, none⟩ = some (.int .i64 a0)) (hy : w.cell? ⟨h, 0, none⟩ = some (.int .i64 b0)) (hq : cmp3 a0 b0 = q) (hn : (q != 0) = true) :
    Calls Try.prog 48 #[.slice (some ⟨g, 0, none⟩) 2 2, .slice (some ⟨h, 0, none⟩) 2 2] w fun e w' => e = .returned (.int .i64 q) ∧ w = w' := by
  have HQ := hid hq
  clear hq
  go_enter Try.func48, Try.ntmps48
  go_wp2
  refine wp_loop_rounds 3 ?_
  rw [rounds_succ]
  go_wp2_with (go_at_call 55; refine (cmp_any _ _ _).mono ?_; rw [HQ.out]; rintro e w' ⟨rfl, rfl⟩)
  go_ret
  exact ⟨rfl, rfl⟩

set_option maxRecDepth 100000 in
set_option maxHeartbeats 1000000 in
theorem compare2_second (g h : Nat) (a0 a1 b1 q : Int) (w : World) (hx : w.cell? ⟨g, 0, none⟩ = some (.int .i64 a0)) (hy : w.cell? ⟨h, 0, none⟩ = some (.int .i64 a0)) (hx1 : w.cell? ⟨g, 1, none⟩ = some (.int .i64 a1)) (hy1 : w.cell? ⟨h, 1, none⟩ = some (.int .i64 b1)) (hq : cmp3 a1 b1 = q) :
    Calls Try.prog 48 #[.slice (some ⟨g, 0, none⟩) 2 2, .slice (some ⟨h, 0, none⟩) 2 2] w fun e w' => e = .returned (.int .i64 q) ∧ w = w' := by
  have HQ := hid hq
  clear hq
  by_cases hn : q = 0
  · subst hn
    go_enter Try.func48, Try.ntmps48
    go_wp2
    refine wp_loop_rounds 3 ?_
    rw [rounds_succ]
    go_wp2_with (go_at_call 55; refine (cmp_eq _ _).mono ?_; rintro e w' ⟨rfl, rfl⟩)
    rw [rounds_succ]
    go_wp2_with (go_at_call 55; refine (cmp_any _ _ _).mono ?_; rw [HQ.out]; rintro e w' ⟨rfl, rfl⟩)
    rw [rounds_succ]
    go_wp2
    go_ret
    exact ⟨rfl, rfl⟩
  · have hn' : (q != 0) = true := by simpa using hn
    clear hn
    go_enter Try.func48, Try.ntmps48
    go_wp2
    refine wp_loop_rounds 3 ?_
    rw [rounds_succ]
    go_wp2_with (go_at_call 55; refine (cmp_eq _ _).mono ?_; rintro e w' ⟨rfl, rfl⟩)
    rw [rounds_succ]
    go_wp2_with (go_at_call 55; refine (cmp_any _ _ _).mono ?_; rw [HQ.out]; rintro e w' ⟨rfl, rfl⟩)
    go_ret
    exact ⟨rfl, rfl⟩

theorem cmp3_zero (x y : Int) : cmp3 x y = 0 ↔ x = y := by
  unfold cmp3
  by_cases h1 : x < y
  · rw [if_pos h1]; constructor
    · intro h; cases h
    · intro h; omega
  · by_cases h2 : y < x
    · rw [if_neg h1, if_pos h2]; constructor
      · intro h; cases h
      · intro h; omega
    · rw [if_neg h1, if_neg h2]; constructor
      · intro _; omega
      · intro _; rfl

theorem compare2_any (g h : Nat) (a0 a1 b0 b1 : Int) (w : World) (hx : w.cell? ⟨g, 0, none⟩ = some (.int .i64 a0)) (hy : w.cell? ⟨h, 0, none⟩ = some (.int .i64 b0)) (hx1 : w.cell? ⟨g, 1, none⟩ = some (.int .i64 a1)) (hy1 : w.cell? ⟨h, 1, none⟩ = some (.int .i64 b1)) :
    Calls Try.prog 48 #[.slice (some ⟨g, 0, none⟩) 2 2, .slice (some ⟨h, 0, none⟩) 2 2] w fun e w' => e = .returned (.int .i64 (cmpE (a0, a1) (b0, b1))) ∧ w = w' := by
  unfold cmpE
  by_cases h0 : cmp3 a0 b0 = 0
  · obtain rfl := (cmp3_zero a0 b0).1 h0
    simp only [h0, if_true]
    exact compare2_second g h a0 a1 b1 _ w hx hy hx1 hy1 rfl
  · simp only [h0, if_false]
    exact compare2_first g h a0 b0 _ w hx hy rfl (by simpa using h0)

theorem compare2_r (g h : Nat) (a0 a1 b0 b1 r : Int) (w : World) (hr : cmpE (a0, a1) (b0, b1) = r) (hx : w.cell? ⟨g, 0, none⟩ = some (.int .i64 a0)) (hy : w.cell? ⟨h, 0, none⟩ = some (.int .i64 b0)) (hx1 : w.cell? ⟨g, 1, none⟩ = some (.int .i64 a1)) (hy1 : w.cell? ⟨h, 1, none⟩ = some (.int .i64 b1)) :
    Calls Try.prog 48 #[.slice (some ⟨g, 0, none⟩) 2 2, .slice (some ⟨h, 0, none⟩) 2 2] w fun e w' => e = .returned (.int .i64 r) ∧ w = w' := by
  subst hr
  exact compare2_any g h a0 a1 b0 b1 w hx hy hx1 hy1

set_option maxHeartbeats 1000000 in
/-- The closure: two blocks are laid, and perhaps something is drawn. -/
theorem closure_any (a0 a1 b0 b1 : Int) (w : World) :
    Calls Try.prog 47 #[.agg #[.int .i64 a0, .int .i64 a1], .agg #[.int .i64 b0, .int .i64 b1]] w fun e w' => e = .returned (.int .i64 (cmpE (a0, a1) (b0, b1))) ∧
      ∃ q, w' = ((w.alloc (.cells #[.int .i64 a0, .int .i64 a1] 53)).alloc (.cells #[.int .i64 b0, .int .i64 b1] 53)).drewN q := by
  obtain ⟨r, hr⟩ : ∃ r, cmpE (a0, a1) (b0, b1) = r := ⟨_, rfl⟩
  rw [hr]
  have HR := hid hr
  clear hr
  go_enter Try.func47, Try.ntmps47
  go_wp2
  go_quiet ((go_at_call 48; refine quiet_same (compare2_r _ _ a0 a1 b0 b1 r _ HR.out ?_ ?_ ?_ ?_) <;> simp))
  go_wp2
  go_ret
  exact ⟨rfl, _, rfl⟩

end Go.Proofs.Ytaafbdpdpndplaa

/- The library's sort, called on edges with the program's closure. -/
namespace Go.Proofs.Ytaafbdpdpndplaa
open Go.RowKit Go.Lib Go.Sort Go.Shelf

theorem cmpE_key (x y : Int × Int) : cmpE x y < 0 ↔ ltE x.1 x.2 y.1 y.2 := by
  unfold cmpE cmp3 ltE
  by_cases h1 : x.1 < y.1
  · simp [h1]
  · by_cases h2 : y.1 < x.1
    · simp [h1, h2]; omega
    · have h3 : x.1 = y.1 := by omega
      simp [h3]
      by_cases h4 : x.2 < y.2
      · simp [h4]
      · by_cases h5 : y.2 < x.2
        · simp [h4, h5]
        · simp [h4, h5]

theorem cmpE_lt (x y : Int × Int) : ltOf cmpE x y = decide (ltE x.1 x.2 y.1 y.2) := decide_eq_decide.2 (cmpE_key x y)

theorem cmpE_swo : SWO (ltOf cmpE) where
  irrefl x := by simp only [cmpE_lt, decide_eq_false_iff_not, ltE]; omega
  trans x y z h1 h2 := by rw [cmpE_lt, decide_eq_true_eq] at h1 h2 ⊢; unfold ltE at *; omega
  ntrans x y z h1 h2 := by rw [cmpE_lt, decide_eq_false_iff_not] at h1 h2 ⊢; unfold ltE at *; omega

theorem cmpE_total (x y : Int × Int) (h1 : ltOf cmpE x y = false) (h2 : ltOf cmpE y x = false) : x = y := by
  rw [cmpE_lt, decide_eq_false_iff_not] at h1 h2
  unfold ltE at *
  apply Prod.ext <;> omega

theorem cmpE_le : (fun x y => !(ltOf cmpE) y x) = leE := by
  funext x y
  rw [cmpE_lt]
  unfold leE
  exact (decide_not ..).symm

theorem cmpLays (g m : Nat) (w : World) : CmpLays Try.prog 47 #[] encE 2 cmpE g 0 m w := fun k os dk _ x y =>
  (closure_any x.1 x.2 y.1 y.2 (sortWorldK encE 2 w g 0 k dk os)).mono fun e w' h => by
    obtain ⟨he, q, hw⟩ := h
    refine ⟨he, q, #[.cells #[.int .i64 x.1, .int .i64 x.2] 53] ++ #[.cells #[.int .i64 y.1, .int .i64 y.2] 53], ?_⟩
    rw [hw, alloc_eq_grow, alloc_eq_grow, grow_grow]
    rfl

theorem sortFunc_any (g cap m : Nat) (es : List (Int × Int)) (w : World) (ho : OwnE w g cap es) (hl : es.length = m) (hm : m ≤ 1048576) :
    Calls Try.prog 46 #[.slice (some ⟨g, 0, none⟩) m cap, .func (.func 47) #[] #[]] w fun e w' => e = .returned (.tuple #[]) ∧ OwnE w' g cap (es.mergeSort leE) ∧ RowKit.Below g w w' := by
  have eg : ∀ args w, (callFunc 47 args).run Try.prog w = .ok (.enter 47 args) w := enters_of Try.func47 (by kernel_rfl) rfl
  have hcon := AnyQ.slices_SortFunc_total Try.sortE 2 Try.isAgg53 Try.sizeOf53 encE (fun _ => rfl) (fun x v hv => by simp [encE] at hv; rcases hv with rfl | rfl <;> rfl) cmpE cmpE_swo 47 #[] g 0 cap es.toArray w eg (cmpLays g _ w) ho.holdsK ho.lt (by simp; omega) cmpE_total
  change Calls Try.prog 46 _ _ _ at hcon
  rw [cmpE_le] at hcon
  subst hl
  refine hcon.mono ?_
  rintro e w' ⟨he, n, os, rfl⟩
  refine ⟨he, ?_, below_sorted _ _ _ _ _ ho.lt⟩
  exact ho.sorted (List.length_mergeSort _)

end Go.Proofs.Ytaafbdpdpndplaa

/- Edges set in order by the program. -/
namespace Go.Proofs.Ytaafbdpdpndplaa
open Go.RowKit

set_option maxRecDepth 100000 in
set_option maxHeartbeats 2000000 in
theorem inOrder_any (b off m c : Nat) (es : List (Int × Int)) (w : World) (hm : m ≤ 1048576) (hlen : es.length = m) (hr : ReadsE w b off es) :
    Calls Try.prog 41 #[.slice (some ⟨b, off, none⟩) m c] w fun e w' => e = .returned (.slice (some ⟨w.heap.size, 0, none⟩) m m) ∧ OwnE w' w.heap.size m (sortE es) ∧ Below w.heap.size w w' := by
  obtain ⟨i0, hi, hz0, hz1, hz2⟩ := info_parts infoEdge
  have Hl := hid hlen
  have Hr := hid hr
  have hl2 : m ≤ 9223372036854775807 := by omega
  have Hm := hid hm
  clear hlen hr hm
  go_enter Try.func41, Try.ntmps41
  go_wp2_with (at_make; refine wpList_make_full _ rfl _ _ 28 rfl w.heap.size 53 i0 (.agg #[.int .i64 0, .int .i64 0]) 2 Try.underlying28 hi hz0 hz1 _ _ _ _ m rfl rfl rfl rfl (by have := Hm.out; rw [hz2]; omega) (by unfold maxLen; omega) (Nat.le_refl _) ?_; intro w1 hown hgrow)
  have Ho := hid (OwnE.made hown)
  have Hb := hid ((Below.refl w.heap.size w).grown hgrow (Nat.le_refl _) (fun k e => by cases e))
  clear hown hgrow hi hz0 hz1 hz2
  go_loopw [11] (fun i wr => ∃ k : Nat, k ≤ m ∧ i = .int .i64 k ∧ OwnE wr w.heap.size m ((es.map normE).take k ++ List.replicate (m - k) (0, 0)) ∧ Below w.heap.size w wr) (fun i _ => m - (intOf i).toNat)
  case atStart => exact ⟨0, Nat.zero_le _, rfl, by simpa using Ho.out, Hb.out⟩
  case round =>
    obtain ⟨k, hk, rfl, hO, hB⟩ := hrel
    clear Ho Hb
    by_cases hlt : k < m
    · have hbb : b < w.heap.size := reads_lt Hr.out (by have := Hl.out; omega)
      have hc1 := (hB.cell (p := ⟨b, off + k * 2, none⟩) hbb).trans (Hr.out k (by have := Hl.out; omega)).1
      have hc2 := (hB.cell (p := ⟨b, off + k * 2 + 1, none⟩) hbb).trans (Hr.out k (by have := Hl.out; omega)).2
      have f1 := hO.free (k * 2)
      have f2 := hO.free (k * 2 + 1)
      have g1 := (hO.reads k (by simp; have := Hl.out; omega)).1
      have g2 := (hO.reads k (by simp; have := Hl.out; omega)).2
      have hgl := hO.lt
      rw [Nat.zero_add] at g1 g2
      have HO := hid hO
      clear hO
      go_wp2
      go_roundw
      case rel =>
        refine ⟨k + 1, by omega, by go_num, ?_, ?_⟩
        · rw [← fill_step (es := es.map normE) (by rw [List.length_map]; exact Hl.out) hlt _ (norm_at (by have := Hl.out; omega))]
          exact (HO.out.set (by simp; have := Hl.out; omega) _ _).alloc _
        · exact ((hB.setCell (Nat.le_refl _) _).setCell (Nat.le_refl _) _).alloc (by simpa using hB.size) _
      case measure => simp [intOf]; omega
    · obtain rfl : k = m := by omega
      rw [Nat.sub_self, List.replicate_zero, List.append_nil, List.take_of_length_le (by rw [List.length_map]; have := Hl.out; omega)] at hO
      have HO := hid hO
      clear hO
      go_wp2_with (go_at_call 46; refine (sortFunc_any _ _ _ (es.map normE) _ HO.out (by rw [List.length_map]; exact Hl.out) Hm.out).mono ?_; rintro e w2 ⟨rfl, ho2, hb2⟩; have HO2 := hid ho2; clear ho2)
      go_ret
      exact ⟨rfl, HO2.out, hB.trans hb2⟩

end Go.Proofs.Ytaafbdpdpndplaa

namespace Go.Proofs.Ytaafbdpdpndplaa
open Go.RowKit

set_option maxRecDepth 100000 in
set_option maxHeartbeats 1000000 in
theorem iGraphOf_ends (n : Int) (p : Option Addr) (m c : Nat) (es : List (Int × Int)) (w : World) (hm : m ≤ 9223372036854775807) (hlen : es.length = m) (hr : SeesE w p es) (h : ¬ Ends n es) :
    Calls Try.prog 34 #[.int .i64 n, .slice p m c] w fun e w' => e = .returned (.tuple #[.agg #[.int .i64 0, .slice none 0 0], .int .i64 2]) ∧ Below w.heap.size w w' := by
  have Hl := hid hlen
  have Hr := hid hr
  have H := hid h
  clear hlen hr h
  go_enter Try.func34, Try.ntmps34
  go_wp2_with (go_at_call 39; refine (iEdges_any _ _ _ _ es _ hm Hl.out (Hr.out.alloc _)).mono ?_; rw [decide_eq_false H.out]; rintro e w2 ⟨rfl, hb2⟩; obtain ⟨hc, hf⟩ := bcells hb2; have hz := hb2.size; simp at hz)
  have hbw := bfrom (w := w) (by go_grown) hb2
  refine bodyPost_ret (v := .tuple #[.agg #[.int .i64 0, .slice none 0 0], .int .i64 2]) (by simp [results, Try.results34, go_sem, hc]) rfl ⟨rfl, by go_grown⟩

set_option maxRecDepth 100000 in
set_option maxHeartbeats 1000000 in
theorem iGraphOf_cubic (N b off m c : Nat) (es : List (Int × Int)) (w : World) (hm : m ≤ 9223372036854775807) (hlen : es.length = m) (hr : ReadsE w b off es) (h : Ends N es) (hC : ¬ Cubic N es) :
    Calls Try.prog 34 #[.int .i64 N, .slice (some ⟨b, off, none⟩) m c] w fun e w' => e = .returned (.tuple #[.agg #[.int .i64 0, .slice none 0 0], .int .i64 5]) ∧ Below w.heap.size w w' := by
  have Hl := hid hlen
  have Hr := hid hr
  have H := hid h
  have HC := hid hC
  clear hlen hr h hC
  go_enter Try.func34, Try.ntmps34
  go_wp2_with (first | (go_at_call 39; refine (iEdges_any _ _ _ _ es _ hm Hl.out (SeesE.alloc (.inr ⟨b, off, rfl, Hr.out⟩) _)).mono ?_; rw [decide_eq_true H.out]; rintro e w2 ⟨rfl, hb2⟩) | (go_at_call 40; refine (iThree_any _ _ _ _ _ es _ H.out Hl.out ((Hr.out.on ((Below.refl _ _).alloc (Nat.le_refl _) _)).on hb2)).mono ?_; rw [decide_eq_false HC.out]; rintro e w3 ⟨rfl, hb3⟩; have hb4 := bfrom hb2 hb3; obtain ⟨hc, hf⟩ := bcells hb4; have hz := hb4.size; simp at hz))
  have hbw := bfrom (w := w) (by go_grown) hb4
  refine bodyPost_ret (v := .tuple #[.agg #[.int .i64 0, .slice none 0 0], .int .i64 5]) (by simp [results, Try.results34, go_sem, hc]) rfl ⟨rfl, by go_grown⟩

set_option maxRecDepth 100000 in
set_option maxHeartbeats 1000000 in
theorem iGraphOf_yes (N b off m c : Nat) (es : List (Int × Int)) (w : World) (hm : m ≤ 1048576) (hlen : es.length = m) (hr : ReadsE w b off es) (h : Ends N es) (hC : Cubic N es) :
    Calls Try.prog 34 #[.int .i64 N, .slice (some ⟨b, off, none⟩) m c] w fun e w' => ∃ g, e = .returned (.tuple #[.agg #[.int .i64 N, .slice (some ⟨g, 0, none⟩) m m], .int .i64 0]) ∧ w.heap.size ≤ g ∧ OwnE w' g m (sortE es) ∧ Below w.heap.size w w' := by
  have Hl := hid hlen
  have Hr := hid hr
  have H := hid h
  have HC := hid hC
  have Hm := hid hm
  clear hlen hr h hC hm
  go_enter Try.func34, Try.ntmps34
  go_wp2_with (first | (go_at_call 39; refine (iEdges_any _ _ _ _ es _ (by have := Hm.out; omega) Hl.out (SeesE.alloc (.inr ⟨b, off, rfl, Hr.out⟩) _)).mono ?_; rw [decide_eq_true H.out]; rintro e w2 ⟨rfl, hb2⟩) | (go_at_call 40; refine (iThree_any _ _ _ _ _ es _ H.out Hl.out ((Hr.out.on ((Below.refl _ _).alloc (Nat.le_refl _) _)).on hb2)).mono ?_; rw [decide_eq_true HC.out]; rintro e w3 ⟨rfl, hb3⟩) | (go_at_call 41; refine (inOrder_any _ _ _ _ es _ Hm.out Hl.out (((Hr.out.on ((Below.refl _ _).alloc (Nat.le_refl _) _)).on hb2).on hb3)).mono ?_; rintro e w4 ⟨rfl, ho4, hb4⟩; have HO4 := hid ho4; clear ho4; have hb5 := bfrom (bfrom hb2 hb3) hb4; obtain ⟨hc, hf⟩ := bcells hb5; have hz := hb5.size; simp at hz))
  have hbw := bfrom (w := w) (by go_grown) hb5
  have hz3 := (bfrom hb2 hb3).size
  simp at hz3
  refine bodyPost_ret (v := .tuple #[.agg #[.int .i64 N, .slice (some ⟨w3.heap.size, 0, none⟩) m m], .int .i64 0]) (by simp [results, Try.results34, go_sem, hc]) rfl ⟨_, rfl, by omega, ?_, by go_grown⟩
  refine OwnE.far (OwnE.far HO4.out ?_ _) ?_ _ <;> simp <;> omega

end Go.Proofs.Ytaafbdpdpndplaa
