/- The range over the edges at a vertex: what its function hands over, for every loop body. -/
import Derived.Test.YtaafbdpdpndplaaImplG
import Derived.RangeFuncBox
import Derived.RangeFuncNested
import Derived.RangeFuncBound
import Derived.RangeFuncCalls
import Derived.RangeFuncLeaves
import Derived.Shelf.Abstract
import Derived.Shelf.RegionOpen
import Derived.WalkKit
import Derived.OwnWalkIn
import Derived.TacticsInMore
import Derived.LoopNIn
import Derived.LoopIn
import Derived.Maps.AppendAt
import Derived.Test.YtaafbdpdpndplaaLawsF
import Derived.Test.YtaafbdpdpndplaaCols

/- The other end of an edge, in the program. -/
namespace Go.Proofs.Ytaafbdpdpndplaa
open Go.RowKit

def acrossF (a b v : Int) : Int × Bool := if a = v then (b, true) else if b = v then (a, true) else (0, false)

set_option maxHeartbeats 400000 in
theorem iAcross_any (a b v : Int) (w : World) :
    Calls Try.prog 57 #[.agg #[.int .i64 a, .int .i64 b], .int .i64 v] w fun e w' => e = .returned (.tuple #[.int .i64 (acrossF a b v).1, .bool (acrossF a b v).2]) ∧ Below w.heap.size w w' := by
  unfold acrossF
  by_cases h1 : a = v
  · subst h1
    simp only [if_true]
    go_enter Try.func57, Try.ntmps57
    go_wp2
    go_ret2
    exact ⟨rfl, by go_grown⟩
  · rw [if_neg h1]
    have g1 : (v == a) = false := by simp only [beq_eq_false_iff_ne, ne_eq]; exact fun e => h1 e.symm
    by_cases h2 : b = v
    · subst h2
      simp only [if_true]
      clear h1
      go_enter Try.func57, Try.ntmps57
      go_wp2
      go_ret2
      exact ⟨rfl, by go_grown⟩
    · rw [if_neg h2]
      have g2 : (v == b) = false := by simp only [beq_eq_false_iff_ne, ne_eq]; exact fun e => h2 e.symm
      clear h1 h2
      go_enter Try.func57, Try.ntmps57
      go_wp2
      go_ret2
      exact ⟨rfl, by go_grown⟩

end Go.Proofs.Ytaafbdpdpndplaa

namespace Go.Proofs.Ytaafbdpdpndplaa
open Go.RowKit Go.Shelf

attribute [local go_sem] Oper.semAt_some

/-- The edges at a vertex with their other ends, of the first k ones. -/
def arU (es : List (Int × Int)) (v : Int) (k : Nat) : List (Nat × Int) := ((List.range k).filter (onE es v)).map fun i => (i, (acrossF (eA es i) (eB es i) v).1)
def arF (es : List (Int × Int)) (v : Int) : List (Nat × Int) := arU es v es.length
theorem arU_yes {es : List (Int × Int)} {v : Int} {k : Nat} (h : onE es v k = true) : arU es v (k + 1) = arU es v k ++ [(k, (acrossF (eA es k) (eB es k) v).1)] := by
  unfold arU
  rw [List.range_succ, List.filter_append, List.map_append]
  simp [h]
theorem arU_no {es : List (Int × Int)} {v : Int} {k : Nat} (h : onE es v k = false) : arU es v (k + 1) = arU es v k := by
  unfold arU
  rw [List.range_succ, List.filter_append, List.map_append]
  simp [h]
theorem arU_len (es : List (Int × Int)) (v : Int) (k : Nat) : (arU es v k).length ≤ k := by
  unfold arU
  rw [List.length_map]
  exact Nat.le_trans (List.length_filter_le _ _) (by simp)
theorem arU_lt {es : List (Int × Int)} {v : Int} {k m : Nat} (hk : k < m) (h : onE es v k = true) : (arU es v k).length < (arU es v m).length := by
  have h2 : ∀ j, k + 1 + j ≤ m → (arU es v (k + 1)).length ≤ (arU es v (k + 1 + j)).length := by
    intro j
    induction j with
    | zero => intro _; exact Nat.le_refl _
    | succ j ih =>
      intro hj
      have h3 := ih (by omega)
      cases h4 : onE es v (k + 1 + j)
      · rw [show k + 1 + (j + 1) = k + 1 + j + 1 by omega, arU_no h4]; exact h3
      · rw [show k + 1 + (j + 1) = k + 1 + j + 1 by omega, arU_yes h4, List.length_append]; omega
  have h5 := h2 (m - (k + 1)) (by omega)
  rw [show k + 1 + (m - (k + 1)) = m by omega, arU_yes h, List.length_append] at h5
  simp at h5
  omega
theorem acrossF_snd {es : List (Int × Int)} {v : Int} {k : Nat} : (acrossF (eA es k) (eB es k) v).2 = onE es v k := by
  unfold acrossF onE
  by_cases h1 : eA es k = v
  · simp [h1]
  · rw [if_neg h1]
    by_cases h2 : eB es k = v
    · simp [h2]
    · simp [h1, h2]
theorem arU_fst (es : List (Int × Int)) (v : Int) (k : Nat) : (arU es v k).map (fun x => (x.1 : Int)) = atU es v k := by
  unfold arU atU
  rw [List.map_map]
  rfl

/-- What a round keeps: whatever lay below n₀, and the block Bv. -/
def KpB (n₀ Bv : Nat) (W W' : World) : Prop := Below n₀ W W' ∧ W'.heap[Bv]? = W.heap[Bv]?
theorem kpB_t {n₀ Bv : Nat} {A B C : World} (h : KpB n₀ Bv A B) (k : KpB n₀ Bv B C) : KpB n₀ Bv A C := ⟨h.1.trans k.1, k.2.trans h.2⟩
theorem kpB_b {n₀ Bv : Nat} {w : World} (hn : n₀ ≤ w.heap.size) (hB : Bv < w.heap.size) (W : World) (l : Nat) (o o' : Obj) (hl : w.heap.size ≤ l) (h : W.heap[l]? = some o) (hc : o.isCells = false) (hw : o.isWalk = false) : KpB n₀ Bv W (W.putObj l o') :=
  ⟨belowK_b hn W l o o' hl h hc hw, (belowK_b (n₀ := Bv + 1) (w := w) hB W l o o' hl h hc hw).block Bv (by omega)⟩
theorem kpB_on {n₀ Bv : Nat} {W W' : World} (h : Below W.heap.size W W') (hn : n₀ ≤ W.heap.size) (hB : Bv < W.heap.size) : KpB n₀ Bv W W' := ⟨h.mono hn, h.block Bv hB⟩

abbrev encN (x : Nat × Int) : Array Value := #[.int .i64 (x.1 : Int), .int .i64 x.2]

set_option maxHeartbeats 1000000 in
/-- The maker of the range: graph and vertex are boxed, and the function value captures the boxes. -/
theorem iAround_any (s v : Int) (p : Option Addr) (n c : Nat) (w : World) :
    Calls Try.prog 50 #[.agg #[.int .i64 s, .slice p n c], .int .i64 v] w fun e w' => e = .returned (.func (.func 56) #[] #[.pointer (some ⟨w.heap.size, 0, none⟩), .pointer (some ⟨w.heap.size + 1, 0, none⟩)]) ∧ w' = (w.alloc (.cells #[.int .i64 s, .slice p n c] 30)).alloc (.cells #[.int .i64 v] 2) := by
  go_enter Try.func50, Try.ntmps50
  go_wp2
  go_ret
  exact ⟨rfl, rfl⟩

set_option maxRecDepth 100000 in
set_option maxHeartbeats 4000000 in
/-- The range's function, for every loop body that keeps what lay below n₀. -/
theorem around1_in (n : Nat) (hn : 1 ≤ n) (l Bg Bv n₀ b off m c : Nat) (v : Int) (es : List (Int × Int)) (hm : es.length = m) (hm30 : m ≤ 30) (hb : b < n₀) (J Jx : List (Nat × Int) → World → Prop) (W : World) (hn0 : n₀ ≤ W.heap.size)
    (hJa : ∀ xs A B, J xs A → Below A.heap.size A B → J xs B)
    (hY : ∀ pre x W1, J pre W1 → pre.length < (arF es v).length → YieldAt Fence.wide (n - 1) Try.prog l (encN x) W1 fun e W' =>
      (e = .returned (.bool true) ∧ J (pre ++ [x]) W' ∧ KpB n₀ Bv W1 W') ∨ (e = .returned (.bool false) ∧ Jx (pre ++ [x]) W'))
    (hBg : W.cell? ⟨Bg, 1, none⟩ = some (.slice (some ⟨b, off, none⟩) m c)) (hBv : W.cell? ⟨Bv, 0, none⟩ = some (.int .i64 v)) (hBvl : Bv < W.heap.size) (hr : ReadsE W b off es) (h0 : J [] W) :
    CallsIn Fence.wide n Try.prog 56 #[.func (.yield l) #[] #[], .pointer (some ⟨Bg, 0, none⟩), .pointer (some ⟨Bv, 0, none⟩)] W fun e W' => (∃ u, e = .returned u) ∧
      ((∃ ys, ys = arF es v ∧ J ys W') ∨ (∃ pre, (∃ k, k ≤ m ∧ pre = arU es v k) ∧ Jx pre W')) := by
  have Hm := hid hm
  have Hr := hid hr
  have HJa := hid hJa
  have HY := hid hY
  clear hm hr hJa hY
  refine callsIn_of_wp Try.func56 rfl trivial ?_ rfl
  simp only [Try.ntmps56, List.size_toArray, List.length_cons, List.length_nil, Nat.reduceAdd, Nat.reduceSub, Array.replicate_succ, Array.replicate_zero, List.push_toArray, List.append_toArray, List.nil_append, List.cons_append]
  gi_wp2
  gi_loopw [11] (fun i wr => ∃ k : Nat, k ≤ m ∧ i = .int .i64 k ∧ Hid (J (arU es v k) wr) ∧ Hid (KpB n₀ Bv W wr)) (fun i _ => m - (intOf i).toNat)
  case atStart => exact ⟨0, Nat.zero_le _, rfl, hid h0, hid ⟨Below.refl _ _, rfl⟩⟩
  case round =>
    obtain ⟨k, hk, rfl, hJs, hnx⟩ := hrel
    by_cases hlt : k < m
    · have hc1 := (hnx.out.1.cell (p := ⟨b, off + k * 2, none⟩) hb).trans (Hr.out k (by have := Hm.out; omega)).1
      have hc2 := (hnx.out.1.cell (p := ⟨b, off + k * 2 + 1, none⟩) hb).trans (Hr.out k (by have := Hm.out; omega)).2
      have hcv := (World.cell?_of_block (w := W) (a := ⟨Bv, 0, none⟩) hnx.out.2).trans hBv
      have hbl : b < wr.heap.size := by have := hnx.out.1.size; omega
      have hBvr : Bv < wr.heap.size := by have := hnx.out.1.size; omega
      obtain ⟨r, hr⟩ : ∃ r, acrossF (eA es k) (eB es k) v = r := ⟨_, rfl⟩
      obtain ⟨r1, r2⟩ := r
      have HRR := hid hr
      have hon : r2 = onE es v k := by rw [← acrossF_snd, hr]
      have HON := hid hon
      clear hr hon
      cases r2
      · gi_wp2_with (refine ⟨trivial, ?_⟩; gi_at_call 57; refine (callsIn_wide.2 (iAcross_any _ _ _ _)).mono ?_; rw [HRR.out]; rintro e w2 ⟨rfl, hb2⟩)
        refine ⟨fun _ h => (by cases h), ?_⟩
        gi_wp2
        go_roundw
        case rel => exact ⟨k + 1, by omega, by go_num, hid (by rw [arU_no HON.out.symm]; exact HJa.out _ _ _ hJs.out (bfrom (on_alloc _ _) hb2)), hid (kpB_t hnx.out (kpB_on (bfrom (on_alloc _ _) hb2) (by have := hnx.out.1.size; omega) hBvr))⟩
        case measure => simp [intOf]; omega
      · gi_wp2_with (refine ⟨trivial, ?_⟩; gi_at_call 57; refine (callsIn_wide.2 (iAcross_any _ _ _ _)).mono ?_; rw [HRR.out]; rintro e w2 ⟨rfl, hb2⟩; have hJ2 := HJa.out _ _ _ hJs.out (bfrom (on_alloc _ _) hb2); obtain ⟨fn, tmps, assign, body, hy, hR⟩ := HY.out _ (k, r1) w2 hJ2 (by have h := arU_lt (m := es.length) (by have := Hm.out; omega) HON.out.symm; exact h); dsimp only [encN] at hy; have hR' := hid hR; clear hR hJ2)
        refine hR'.out.mono ?_
        rintro e W3 (⟨rfl, hJ3, hk3⟩ | ⟨rfl, hJx3⟩)
        · gi_wp2
          go_roundw
          case rel => exact ⟨k + 1, by omega, by go_num, hid (by rw [arU_yes HON.out.symm, HRR.out]; exact hJ3), hid (kpB_t (kpB_t hnx.out (kpB_on (bfrom (on_alloc _ _) hb2) (by have := hnx.out.1.size; omega) hBvr)) hk3)⟩
          case measure => simp [intOf]; omega
        · gi_wp2
          refine bodyPost_ret (results_none rfl _ _ _) rfl ?_
          exact ⟨⟨_, rfl⟩, .inr ⟨_, ⟨k + 1, by omega, (by rw [arU_yes HON.out.symm, HRR.out])⟩, hJx3⟩⟩
    · obtain rfl : k = m := by omega
      gi_wp2
      go_end0
      exact ⟨⟨_, rfl⟩, .inl ⟨_, by unfold arF; rw [Hm.out], hJs.out⟩⟩

theorem around_stops (n : Nat) (hn : 1 ≤ n) (Bg Bv n₀ b off m c : Nat) (v : Int) (es : List (Int × Int)) (hm : es.length = m) (hm30 : m ≤ 30) (hb : b < n₀) (w : World) (hn0 : n₀ ≤ w.heap.size)
    (hBg : w.cell? ⟨Bg, 1, none⟩ = some (.slice (some ⟨b, off, none⟩) m c)) (hBv : w.cell? ⟨Bv, 0, none⟩ = some (.int .i64 v)) (hBvl : Bv < w.heap.size) (hBgl : Bg < w.heap.size) (hr : ReadsE w b off es) :
    SeqStopsK Fence.wide n Try.prog 56 #[.pointer (some ⟨Bg, 0, none⟩), .pointer (some ⟨Bv, 0, none⟩)] encN (KpB n₀ Bv) (fun ys => ys = arF es v) (fun pre => ∃ k, k ≤ m ∧ pre = arU es v k) (arF es v).length w :=
  fun l J Jx W hW hJ _ hY h0 => around1_in n hn l Bg Bv n₀ b off m c v es hm hm30 hb J Jx W (Nat.le_trans hn0 hW.size) (fun xs A B hj hbb => hJ xs A B none hj (below_grown hbb) (fun r e => by cases e)) hY
    ((hW.cell (p := ⟨Bg, 1, none⟩) hBgl).trans hBg) ((hW.cell (p := ⟨Bv, 0, none⟩) hBvl).trans hBv) (Nat.lt_of_lt_of_le hBvl hW.size) (hr.below hW (by omega)) h0

end Go.Proofs.Ytaafbdpdpndplaa
