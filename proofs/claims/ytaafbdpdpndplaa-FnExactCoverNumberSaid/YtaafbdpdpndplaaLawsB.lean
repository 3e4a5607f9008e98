/- The laws' comparisons of edges and graphs. -/
import Derived.Test.YtaafbdpdpndplaaProg
import Derived.Test.YtaafbdpdpndplaaGraphs
import Derived.WalkSpells
import Derived.WalkLawsBesides
import Derived.Deep.QuietTactic
import Derived.BigQuiet
import Derived.StillTailTactics

/- The laws' own helpers on graphs and edges: sizes, copies, comparisons; what each call does to memory. -/
namespace Go.Proofs.Ytaafbdpdpndplaa
open Go.RowKit

theorem infoEdge : (Try.prog.info? 53).map (fun i => (i.zero, i.size, i.bytes)) = some (some (.agg #[.int .i64 0, .int .i64 0]), 2, 16) := by kernel_rfl
theorem infoInt : (Try.prog.info? 2).map (fun i => (i.zero, i.size, i.bytes)) = some (some (.int .i64 0), 1, 8) := by kernel_rfl

set_option maxHeartbeats 400000 in
theorem toEdge_any (x y : Int) (w : World) :
    Calls Try.prog 24 #[.agg #[.int .i64 x, .int .i64 y]] w fun e w' => e = .returned (.agg #[.int .i64 x, .int .i64 y]) ∧ Below w.heap.size w w' := by
  go_enter Try.func24, Try.ntmps24
  go_wp2
  go_rounds 3
  go_returns
  exact ⟨rfl, by go_grown⟩

set_option maxHeartbeats 400000 in
theorem szEdgeS_any (p : Option Addr) (n c : Nat) (left : Int) (w : World) (hn : n ≤ 9223372036854775807) (h0 : 0 ≤ left) (h1 : left ≤ 1048576) :
    Calls Try.prog 9 #[.slice p n c, .int .i64 left] w fun e w' => e = .returned (.int .i64 (if left < n then -1 else left - n)) ∧ w = w' := by
  go_enter Try.func9, Try.ntmps9
  go_wp2
  all_goals go_ret
  · exact ⟨rfl, rfl⟩
  · exact ⟨rfl, rfl⟩

set_option maxHeartbeats 400000 in
theorem szGraph_any (m : Int) (p : Option Addr) (n c : Nat) (left : Int) (w : World) (hn : n ≤ 9223372036854775807) (h0 : 0 ≤ left) (h1 : left ≤ 1048576) :
    Calls Try.prog 4 #[.agg #[.int .i64 m, .slice p n c], .int .i64 left] w fun e w' => e = .returned (.int .i64 (if left < n then -1 else left - n)) ∧ Below w.heap.size w w' := by
  go_enter Try.func4, Try.ntmps4
  go_wp2_with (go_at_call 9; refine (szEdgeS_any _ _ _ _ _ (by omega) (by omega) (by omega)).mono ?_; rintro e w' ⟨rfl, rfl⟩)
  all_goals go_ret
  all_goals exact ⟨rfl, by go_grown⟩

set_option maxRecDepth 100000 in
set_option maxHeartbeats 1000000 in
theorem toEdgeS_any (b off c n : Nat) (es : List (Int × Int)) (w : World) (hn : es.length = n) (hlen : n ≤ 1048576) (hr : ReadsE w b off es) :
    Calls Try.prog 14 #[.slice (some ⟨b, off, none⟩) n c] w fun e w' => e = .returned (.slice (some ⟨w.heap.size, 0, none⟩) n n) ∧
      OwnE w' w.heap.size n es ∧ Below w.heap.size w w' := by
  obtain ⟨i0, hi, hz0, hz1, hz2⟩ := info_parts infoEdge
  have Hn := hid hn
  have Hr := hid hr
  have hl2 : n ≤ 9223372036854775807 := by omega
  have Hl := hid hlen
  clear hn hr hlen
  go_enter Try.func14, Try.ntmps14
  go_wp2_with (at_make; refine wpList_make_full _ rfl _ _ 28 rfl w.heap.size 53 i0 (.agg #[.int .i64 0, .int .i64 0]) 2 Try.underlying28 hi hz0 hz1 _ _ _ _ n rfl rfl rfl rfl (by have := Hl.out; rw [hz2]; omega) (by unfold maxLen; omega) (Nat.le_refl _) ?_; intro w1 hown hgrow)
  have Ho := hid (OwnE.made hown)
  have Hb := hid ((Below.refl w.heap.size w).grown hgrow (Nat.le_refl _) (fun k e => by cases e))
  clear hown hgrow hi hz0 hz1 hz2
  go_loopw [4] (fun i wr => ∃ k : Nat, k ≤ n ∧ i = .int .i64 k ∧ OwnE wr w.heap.size n (es.take k ++ List.replicate (n - k) (0, 0)) ∧ Below w.heap.size w wr) (fun i _ => n - (intOf i).toNat)
  case atStart => exact ⟨0, Nat.zero_le _, rfl, by simpa using Ho.out, Hb.out⟩
  case round =>
    obtain ⟨k, hk, rfl, hO, hB⟩ := hrel
    clear Ho Hb
    by_cases hlt : k < n
    · have hbb : b < w.heap.size := World.block_lt_of_cell? w _ (Hr.out k (by have := Hn.out; omega)).1
      have hc1 := (hB.cell (p := ⟨b, off + k * 2, none⟩) hbb).trans (Hr.out k (by have := Hn.out; omega)).1
      have hc2 := (hB.cell (p := ⟨b, off + k * 2 + 1, none⟩) hbb).trans (Hr.out k (by have := Hn.out; omega)).2
      have HO := hid hO
      clear hO
      go_wp2_with (go_at_call 24; refine (toEdge_any _ _ _).mono ?_; rintro e w2 ⟨rfl, hb2⟩; have HO2 := hid (HO.out.below hb2 HO.out.lt); have f1 := HO2.out.free (k * 2); have f2 := HO2.out.free (k * 2 + 1); have g1 := (HO2.out.reads k (by simp; have := Hn.out; omega)).1; have g2 := (HO2.out.reads k (by simp; have := Hn.out; omega)).2; rw [Nat.zero_add] at g1 g2; have hgl := HO.out.lt; have hgl2 := hb2.size)
      go_roundw
      case rel =>
        refine ⟨k + 1, by omega, by go_num, ?_, ?_⟩
        · rw [← fill_step Hn.out hlt (eA es k, eB es k) (pair_at (by have := Hn.out; omega))]
          exact HO2.out.set (by simp; have := Hn.out; omega) _ _
        · exact ((hB.trans (hb2.mono (by omega))).setCell (Nat.le_refl _) _).setCell (Nat.le_refl _) _
      case measure => simp [intOf]; omega
    · go_wp2
      go_ret
      obtain rfl : k = n := by omega
      refine ⟨rfl, ?_, hB⟩
      have h := hO
      rw [Nat.sub_self, List.replicate_zero, List.append_nil, List.take_of_length_le (by have := Hn.out; omega)] at h
      exact h

set_option maxRecDepth 100000 in
set_option maxHeartbeats 1000000 in
theorem toEdgeS_nil (p : Option Addr) (c : Nat) (w : World) :
    Calls Try.prog 14 #[.slice p 0 c] w fun e w' => e = .returned (.slice (some ⟨w.heap.size, 0, none⟩) 0 0) ∧
      OwnE w' w.heap.size 0 [] ∧ Below w.heap.size w w' := by
  obtain ⟨i0, hi, hz0, hz1, hz2⟩ := info_parts infoEdge
  go_enter Try.func14, Try.ntmps14
  go_wp2_with (at_make; refine wpList_make_full _ rfl _ _ 28 rfl w.heap.size 53 i0 (.agg #[.int .i64 0, .int .i64 0]) 2 Try.underlying28 hi hz0 hz1 _ _ _ _ 0 rfl rfl rfl rfl (by rw [hz2]; omega) (by unfold maxLen; omega) (Nat.le_refl _) ?_; intro w1 hown hgrow)
  have Ho := hid (OwnE.made hown)
  have Hb := hid ((Below.refl w.heap.size w).grown hgrow (Nat.le_refl _) (fun k e => by cases e))
  clear hown hgrow hi hz0 hz1 hz2
  go_rounds 1
  go_ret
  exact ⟨rfl, Ho.out, Hb.out⟩

theorem toEdgeS_sees (p : Option Addr) (c n : Nat) (es : List (Int × Int)) (w : World) (hn : es.length = n) (hlen : n ≤ 1048576) (hr : SeesE w p es) :
    Calls Try.prog 14 #[.slice p n c] w fun e w' => e = .returned (.slice (some ⟨w.heap.size, 0, none⟩) n n) ∧
      OwnE w' w.heap.size n es ∧ Below w.heap.size w w' := by
  rcases hr with rfl | ⟨b, off, rfl, hr⟩
  · obtain rfl : n = 0 := by simpa using hn.symm
    exact toEdgeS_nil p c w
  · exact toEdgeS_any b off c n es w hn hlen hr

set_option maxRecDepth 100000 in
set_option maxHeartbeats 1000000 in
theorem toGraph_any (s : Int) (p : Option Addr) (c n : Nat) (es : List (Int × Int)) (w : World) (hn : es.length = n) (hlen : n ≤ 1048576) (hr : SeesE w p es) :
    Calls Try.prog 6 #[.agg #[.int .i64 s, .slice p n c]] w fun e w' => ∃ g, e = .returned (.agg #[.int .i64 s, .slice (some ⟨g, 0, none⟩) n n]) ∧ w.heap.size ≤ g ∧
      OwnE w' g n es ∧ Below w.heap.size w w' := by
  have Hn := hid hn
  have Hr := hid hr
  have Hl := hid hlen
  clear hn hr hlen
  go_enter Try.func6, Try.ntmps6
  go_wp2_with (go_at_call 14; refine (toEdgeS_sees _ _ _ es _ Hn.out Hl.out ?_).mono ?_; rotate_left; rintro e w2 ⟨rfl, ho2, hb2⟩; have Ho := hid ho2; clear ho2; obtain ⟨hc, hf⟩ := bcells hb2; have hz := hb2.size; simp at hz)
  case refine_1 => exact ((Hr.out.alloc _).alloc _).alloc _
  refine bodyPost_ret (v := .agg #[.int .i64 s, .slice (some ⟨w.heap.size + 1 + 1 + 1, 0, none⟩) n n]) (by simp [results, Try.results6, go_sem, hc]; try omega) rfl ⟨_, rfl, by omega, ?_, ?_⟩
  · have h := Ho.out
    simp at h
    refine OwnE.far (OwnE.far (OwnE.far h ?_ _) ?_ _) ?_ _ <;> simp <;> omega
  · have hbw := bfrom (w := w) (by go_grown) hb2
    go_grown

end Go.Proofs.Ytaafbdpdpndplaa

namespace Go.Proofs.Ytaafbdpdpndplaa
open Go.RowKit

set_option maxHeartbeats 1000000 in
theorem eqEdge_eq (x0 x1 : Int) (w : World) :
    Calls Try.prog 29 #[.agg #[.int .i64 x0, .int .i64 x1], .agg #[.int .i64 x0, .int .i64 x1]] w fun e w' => e = .returned (.bool true) ∧ Below w.heap.size w w' := by
  go_enter Try.func29, Try.ntmps29
  go_wp2
  refine wp_loop_rounds 3 ?_
  rw [rounds_succ]
  go_wp2
  go_quiet (fail)
  go_wp2
  rw [rounds_succ]
  go_wp2
  go_quiet (fail)
  go_wp2
  rw [rounds_succ]
  go_wp2
  go_returns
  exact ⟨rfl, by simp only [bdn]; go_grown⟩

set_option maxHeartbeats 1000000 in
theorem eqEdge_ne0 (x0 x1 y0 y1 : Int) (w : World) (h0 : (x0 != y0) = true) :
    Calls Try.prog 29 #[.agg #[.int .i64 x0, .int .i64 x1], .agg #[.int .i64 y0, .int .i64 y1]] w fun e w' => e = .returned (.bool false) ∧ Below w.heap.size w w' := by
  go_enter Try.func29, Try.ntmps29
  go_wp2
  refine wp_loop_rounds 3 ?_
  rw [rounds_succ]
  go_wp2
  go_quiet (fail)
  go_wp2
  go_returns
  exact ⟨rfl, by simp only [bdn]; go_grown⟩

set_option maxHeartbeats 1000000 in
theorem eqEdge_ne1 (x0 x1 y1 : Int) (w : World) (h1 : (x1 != y1) = true) :
    Calls Try.prog 29 #[.agg #[.int .i64 x0, .int .i64 x1], .agg #[.int .i64 x0, .int .i64 y1]] w fun e w' => e = .returned (.bool false) ∧ Below w.heap.size w w' := by
  go_enter Try.func29, Try.ntmps29
  go_wp2
  refine wp_loop_rounds 3 ?_
  rw [rounds_succ]
  go_wp2
  go_quiet (fail)
  go_wp2
  rw [rounds_succ]
  go_wp2
  go_quiet (fail)
  go_wp2
  go_returns
  exact ⟨rfl, by simp only [bdn]; go_grown⟩

theorem eqEdge_any (x0 x1 y0 y1 : Int) (w : World) :
    Calls Try.prog 29 #[.agg #[.int .i64 x0, .int .i64 x1], .agg #[.int .i64 y0, .int .i64 y1]] w fun e w' => e = .returned (.bool (x0 == y0 && x1 == y1)) ∧ Below w.heap.size w w' := by
  by_cases h0 : x0 = y0
  · subst h0
    by_cases h1 : x1 = y1
    · subst h1
      refine (eqEdge_eq x0 x1 w).mono fun e w' ⟨he, hb⟩ => ⟨by rw [he]; simp, hb⟩
    · refine (eqEdge_ne1 x0 x1 y1 w (by simpa using h1)).mono fun e w' ⟨he, hb⟩ => ⟨by rw [he]; simp [h1], hb⟩
  · refine (eqEdge_ne0 x0 x1 y0 y1 w (by simpa using h0)).mono fun e w' ⟨he, hb⟩ => ⟨by rw [he]; simp [h0], hb⟩

theorem eqEdge_yes (x0 x1 y0 y1 : Int) (w : World) (h : x0 = y0 ∧ x1 = y1) :
    Calls Try.prog 29 #[.agg #[.int .i64 x0, .int .i64 x1], .agg #[.int .i64 y0, .int .i64 y1]] w fun e w' => e = .returned (.bool true) ∧ Below w.heap.size w w' := by
  obtain ⟨rfl, rfl⟩ := h
  exact eqEdge_eq _ _ _

theorem eqEdge_no (x0 x1 y0 y1 : Int) (w : World) (h : ¬ (x0 = y0 ∧ x1 = y1)) :
    Calls Try.prog 29 #[.agg #[.int .i64 x0, .int .i64 x1], .agg #[.int .i64 y0, .int .i64 y1]] w fun e w' => e = .returned (.bool false) ∧ Below w.heap.size w w' :=
  (eqEdge_any x0 x1 y0 y1 w).mono fun e w' ⟨he, hb⟩ => ⟨by rw [he]; congr 2; simpa using h, hb⟩

set_option maxRecDepth 100000 in
set_option maxHeartbeats 1000000 in
theorem eqEdgeS_len (p q : Option Addr) (n m c d : Nat) (w : World) (_hn : n ≤ 9223372036854775807) (_hm : m ≤ 9223372036854775807) (hne : ¬ n = m) :
    Calls Try.prog 18 #[.slice p n c, .slice q m d] w fun e w' => e = .returned (.bool false) ∧ Below w.heap.size w w' := by
  have hne' : ((n : Int) != (m : Int)) = true := by simp; omega
  clear hne
  go_enter Try.func18, Try.ntmps18
  go_wp2
  go_returns
  exact ⟨rfl, Below.refl _ _⟩

set_option maxRecDepth 100000 in
set_option maxHeartbeats 1000000 in
theorem eqEdgeS_nil (p q : Option Addr) (c d : Nat) (w : World) :
    Calls Try.prog 18 #[.slice p 0 c, .slice q 0 d] w fun e w' => e = .returned (.bool true) ∧ Below w.heap.size w w' := by
  go_enter Try.func18, Try.ntmps18
  go_wp2
  go_rounds 1
  go_returns
  exact ⟨rfl, Below.refl _ _⟩

set_option maxRecDepth 100000 in
set_option maxHeartbeats 1000000 in
theorem eqEdgeS_cells (b off b' off' n c d : Nat) (xs ys : List (Int × Int)) (w : World) (hx : xs.length = n) (hy : ys.length = n) (hn : n ≤ 9223372036854775807) (hr : ReadsE w b off xs) (hs : ReadsE w b' off' ys) :
    Calls Try.prog 18 #[.slice (some ⟨b, off, none⟩) n c, .slice (some ⟨b', off', none⟩) n d] w fun e w' => e = .returned (.bool (xs == ys)) ∧ Below w.heap.size w w' := by
  have Hx := hid hx
  have Hy := hid hy
  have Hr := hid hr
  have Hs := hid hs
  clear hx hy hr hs
  go_enter Try.func18, Try.ntmps18
  go_wp2
  go_loopw [5] (fun i wr => ∃ k : Nat, k ≤ n ∧ i = .int .i64 k ∧ Hid (xs.take k = ys.take k) ∧ Below w.heap.size w wr) (fun i _ => n - (intOf i).toNat)
  case atStart => exact ⟨0, Nat.zero_le _, rfl, hid rfl, Below.refl _ _⟩
  case round =>
    obtain ⟨k, hk, rfl, hE, hB⟩ := hrel
    by_cases hlt : k < n
    · have hbb : b < w.heap.size := reads_lt Hr.out (by have := Hx.out; omega)
      have hbb' : b' < w.heap.size := reads_lt Hs.out (by have := Hy.out; omega)
      have hc1 := (Hr.out.below hB hbb k (by have := Hx.out; omega)).1
      have hc2 := (Hr.out.below hB hbb k (by have := Hx.out; omega)).2
      have hc3 := (Hs.out.below hB hbb' k (by have := Hy.out; omega)).1
      have hc4 := (Hs.out.below hB hbb' k (by have := Hy.out; omega)).2
      by_cases hh : eA xs k = eA ys k ∧ eB xs k = eB ys k
      · have HH := hid hh
        clear hh
        go_wp2
        go_still_tail 8, (by kernel_rfl)
        go_wp2_with (go_at_call 29; refine (eqEdge_yes _ _ _ _ _ HH.out).mono ?_; rintro e w2 ⟨rfl, hb2⟩)
        go_roundw
        case rel => exact ⟨k + 1, by omega, by go_num, hid (take_step Hx.out Hy.out hlt hE HH.out), hB.drew.trans (hb2.mono hB.size)⟩
        case measure => simp [intOf]; omega
      · have HH := hid hh
        clear hh
        go_wp2
        go_still_tail 8, (by kernel_rfl)
        go_wp2_with (go_at_call 29; refine (eqEdge_no _ _ _ _ _ HH.out).mono ?_; rintro e w2 ⟨rfl, hb2⟩)
        go_ret
        exact ⟨by rw [ne_of_part HH.out]; rfl, hB.drew.trans (hb2.mono hB.size)⟩
    · go_wp2
      go_returns
      obtain rfl : k = n := by omega
      have h := hE.out
      rw [List.take_of_length_le (by have := Hx.out; omega), List.take_of_length_le (by have := Hy.out; omega)] at h
      exact ⟨by rw [h]; simp, hB⟩

theorem eqEdgeS_any (p q : Option Addr) (n m c d : Nat) (xs ys : List (Int × Int)) (w : World) (hx : xs.length = n) (hy : ys.length = m) (hn : n ≤ 9223372036854775807) (hm : m ≤ 9223372036854775807) (hp : SeesE w p xs) (hq : SeesE w q ys) :
    Calls Try.prog 18 #[.slice p n c, .slice q m d] w fun e w' => e = .returned (.bool (xs == ys)) ∧ Below w.heap.size w w' := by
  by_cases hl : n = m
  · subst hl
    rcases hp with rfl | ⟨b, off, rfl, hr⟩
    · obtain rfl : n = 0 := by simpa using hx.symm
      obtain rfl : ys = [] := List.eq_nil_of_length_eq_zero hy
      exact eqEdgeS_nil _ _ _ _ _
    · rcases hq with rfl | ⟨b', off', rfl, hs⟩
      · obtain rfl : n = 0 := by simpa using hy.symm
        obtain rfl : xs = [] := List.eq_nil_of_length_eq_zero hx
        exact eqEdgeS_nil _ _ _ _ _
      · exact eqEdgeS_cells b off b' off' n c d xs ys w hx hy hn hr hs
  · refine (eqEdgeS_len p q n m c d w hn hm hl).mono fun e w' ⟨he, hb⟩ => ⟨?_, hb⟩
    rw [he, beq_eq_false_iff_ne.2 (fun e => hl (by rw [← hx, ← hy, e]))]

set_option maxRecDepth 100000 in
set_option maxHeartbeats 1000000 in
theorem eqGraph_ne (s t : Int) (p q : Option Addr) (n m c d : Nat) (w : World) (h : (s != t) = true) :
    Calls Try.prog 8 #[.agg #[.int .i64 s, .slice p n c], .agg #[.int .i64 t, .slice q m d]] w fun e w' => e = .returned (.bool false) ∧ Below w.heap.size w w' := by
  go_enter Try.func8, Try.ntmps8
  go_wp2
  go_returns
  exact ⟨rfl, by go_grown⟩

set_option maxRecDepth 100000 in
set_option maxHeartbeats 1000000 in
theorem eqGraph_same (s : Int) (p q : Option Addr) (n m c d : Nat) (xs ys : List (Int × Int)) (w : World) (hx : xs.length = n) (hy : ys.length = m) (hn : n ≤ 9223372036854775807) (hm : m ≤ 9223372036854775807) (hp : SeesE w p xs) (hq : SeesE w q ys) :
    Calls Try.prog 8 #[.agg #[.int .i64 s, .slice p n c], .agg #[.int .i64 s, .slice q m d]] w fun e w' => e = .returned (.bool (xs == ys)) ∧ Below w.heap.size w w' := by
  have Hx := hid hx
  have Hy := hid hy
  have Hp := hid hp
  have Hq := hid hq
  clear hx hy hp hq
  obtain ⟨r, hr⟩ : ∃ r, r = (xs == ys) := ⟨_, rfl⟩
  rw [← hr]
  have HR := hid hr
  clear hr
  go_enter Try.func8, Try.ntmps8
  cases r
  all_goals
    go_wp2_with (go_at_call 18; refine (eqEdgeS_any _ _ _ _ _ _ xs ys _ Hx.out Hy.out hn hm ?_ ?_).mono ?_; rotate_left; rotate_left; rw [← HR.out]; rintro e w2 ⟨rfl, hb2⟩)
  all_goals first
    | exact (Hp.out.alloc _).alloc _
    | exact (Hq.out.alloc _).alloc _
    | (go_ret; exact ⟨rfl, (show Below w.heap.size w _ by go_grown).trans (hb2.mono (by simp; omega))⟩)

theorem eqGraph_any (s t : Int) (p q : Option Addr) (n m c d : Nat) (xs ys : List (Int × Int)) (w : World) (hx : xs.length = n) (hy : ys.length = m) (hn : n ≤ 9223372036854775807) (hm : m ≤ 9223372036854775807) (hp : SeesE w p xs) (hq : SeesE w q ys) :
    Calls Try.prog 8 #[.agg #[.int .i64 s, .slice p n c], .agg #[.int .i64 t, .slice q m d]] w fun e w' => e = .returned (.bool (s == t && xs == ys)) ∧ Below w.heap.size w w' := by
  by_cases h : s = t
  · subst h
    exact (eqGraph_same s p q n m c d xs ys w hx hy hn hm hp hq).mono fun e w' ⟨he, hb⟩ => ⟨by rw [he]; simp, hb⟩
  · exact (eqGraph_ne s t p q n m c d w (by simpa using h)).mono fun e w' ⟨he, hb⟩ => ⟨by rw [he]; simp [h], hb⟩

end Go.Proofs.Ytaafbdpdpndplaa
