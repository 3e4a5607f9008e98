/- The range over the edges at a vertex, for loop bodies that know that they are handed edges at it. -/
import Derived.Test.YtaafbdpdpndplaaIterA
import Derived.Test.YtaafbdpdpndplaaFar
namespace Go.Proofs.Ytaafbdpdpndplaa
open Go.RowKit Go.Shelf

attribute [local go_sem] Oper.semAt_some

/-- An edge at a vertex with its other end. -/
abbrev ArS (es : List (Int × Int)) (v : Int) := {x : Nat × Int // x.1 < es.length ∧ onE es v x.1 = true ∧ x.2 = othE es v x.1}
abbrev encS {es : List (Int × Int)} {v : Int} (x : ArS es v) : Array Value := #[.int .i64 (x.1.1 : Int), .int .i64 x.1.2]
theorem across_oth {es : List (Int × Int)} {v : Int} {k : Nat} (h : onE es v k = true) : (acrossF (eA es k) (eB es k) v).1 = othE es v k := by
  unfold acrossF othE
  unfold onE at h
  by_cases h1 : eA es k = v
  · rw [if_pos h1]
    show eB es k = _
    omega
  · have h2 : eB es k = v := by simpa [h1] using h
    rw [if_neg h1, if_pos h2]
    show eA es k = _
    omega
theorem arF_onL (es : List (Int × Int)) (v : Int) : (arF es v).map Prod.fst = onL es v := by
  unfold arF arU onL
  rw [List.map_map]
  exact List.map_id _

set_option maxRecDepth 100000 in
set_option maxHeartbeats 4000000 in
/-- The range's function, for every loop body that keeps what lay below n₀. -/
theorem around1S_in100 (n : Nat) (hn : 1 ≤ n) (l Bg Bv n₀ b off m c : Nat) (v : Int) (es : List (Int × Int)) (hm : es.length = m) (hm30 : m ≤ 100) (hb : b < n₀) (J Jx : List (ArS es v) → World → Prop) (W : World) (hn0 : n₀ ≤ W.heap.size)
    (hJa : ∀ xs A B, J xs A → Below A.heap.size A B → J xs B)
    (hY : ∀ pre x W1, J pre W1 → pre.length < (arF es v).length → YieldAt Fence.wide (n - 1) Try.prog l (encS x) W1 fun e W' =>
      (e = .returned (.bool true) ∧ J (pre ++ [x]) W' ∧ KpB n₀ Bv W1 W') ∨ (e = .returned (.bool false) ∧ Jx (pre ++ [x]) W'))
    (hBg : W.cell? ⟨Bg, 1, none⟩ = some (.slice (some ⟨b, off, none⟩) m c)) (hBv : W.cell? ⟨Bv, 0, none⟩ = some (.int .i64 v)) (hBvl : Bv < W.heap.size) (hr : ReadsE W b off es) (h0 : J [] W) :
    CallsIn Fence.wide n Try.prog 56 #[.func (.yield l) #[] #[], .pointer (some ⟨Bg, 0, none⟩), .pointer (some ⟨Bv, 0, none⟩)] W fun e W' => (∃ u, e = .returned u) ∧
      ((∃ ys, ys.map Subtype.val = arF es v ∧ J ys W') ∨ (∃ pre, (∃ k, k ≤ m ∧ pre.map Subtype.val = arU es v k) ∧ Jx pre W')) := by
  have Hm := hid hm
  have Hr := hid hr
  have HJa := hid hJa
  have HY := hid hY
  clear hm hr hJa hY
  refine callsIn_of_wp Try.func56 rfl trivial ?_ rfl
  simp only [Try.ntmps56, List.size_toArray, List.length_cons, List.length_nil, Nat.reduceAdd, Nat.reduceSub, Array.replicate_succ, Array.replicate_zero, List.push_toArray, List.append_toArray, List.nil_append, List.cons_append]
  gi_wp2
  gi_loopw [11] (fun i wr => ∃ (k : Nat) (pre : List (ArS es v)), k ≤ m ∧ i = .int .i64 k ∧ Hid (J pre wr ∧ pre.map Subtype.val = arU es v k) ∧ Hid (KpB n₀ Bv W wr)) (fun i _ => m - (intOf i).toNat)
  case atStart => exact ⟨0, [], Nat.zero_le _, rfl, hid ⟨h0, rfl⟩, hid ⟨Below.refl _ _, rfl⟩⟩
  case round =>
    obtain ⟨k, pre, hk, rfl, hJs, hnx⟩ := hrel
    by_cases hlt : k < m
    · have hc1 := (hnx.out.1.cell (p := ⟨b, off + k * 2, none⟩) hb).trans (Hr.out k (by have := Hm.out; omega)).1
      have hc2 := (hnx.out.1.cell (p := ⟨b, off + k * 2 + 1, none⟩) hb).trans (Hr.out k (by have := Hm.out; omega)).2
      have hcv := (World.cell?_of_block (w := W) (a := ⟨Bv, 0, none⟩) hnx.out.2).trans hBv
      have hbl : b < wr.heap.size := by have := hnx.out.1.size; omega
      have hBvr : Bv < wr.heap.size := by have := hnx.out.1.size; omega
      obtain ⟨r, hr⟩ : ∃ r, acrossF (eA es k) (eB es k) v = r := ⟨_, rfl⟩
      obtain ⟨r1, r2⟩ := r
      have HRR := hid hr
      have hon : r2 = onE es v k := by rw [← acrossF_snd, hr]
      have HON := hid hon
      have hot : r2 = true → r1 = othE es v k := fun e => by rw [← across_oth (by rw [← hon, e]), hr]
      have HOT := hid hot
      clear hr hon hot
      cases r2
      · gi_wp2_with (refine ⟨trivial, ?_⟩; gi_at_call 57; refine (callsIn_wide.2 (iAcross_any _ _ _ _)).mono ?_; rw [HRR.out]; rintro e w2 ⟨rfl, hb2⟩)
        refine ⟨fun _ h => (by cases h), ?_⟩
        gi_wp2
        go_roundw
        case rel => exact ⟨k + 1, pre, by omega, by go_num, hid ⟨HJa.out _ _ _ hJs.out.1 (bfrom (on_alloc _ _) hb2), by rw [arU_no HON.out.symm]; exact hJs.out.2⟩, hid (kpB_t hnx.out (kpB_on (bfrom (on_alloc _ _) hb2) (by have := hnx.out.1.size; omega) hBvr))⟩
        case measure => simp [intOf]; omega
      · have HOt := hid (HOT.out rfl)
        clear HOT
        gi_wp2_with (refine ⟨trivial, ?_⟩; gi_at_call 57; refine (callsIn_wide.2 (iAcross_any _ _ _ _)).mono ?_; rw [HRR.out]; rintro e w2 ⟨rfl, hb2⟩; have hJ2 := HJa.out _ _ _ hJs.out.1 (bfrom (on_alloc _ _) hb2); obtain ⟨fn, tmps, assign, body, hy, hR⟩ := HY.out _ ⟨(k, r1), ⟨by have := Hm.out; omega, HON.out.symm, HOt.out⟩⟩ w2 hJ2 (by have h := arU_lt (m := es.length) (by have := Hm.out; omega) HON.out.symm; have h2 := congrArg List.length hJs.out.2; rw [List.length_map] at h2; rw [h2]; exact h); dsimp only [encS] at hy; have hR' := hid hR; clear hR hJ2)
        refine hR'.out.mono ?_
        rintro e W3 (⟨rfl, hJ3, hk3⟩ | ⟨rfl, hJx3⟩)
        · gi_wp2
          go_roundw
          case rel => exact ⟨k + 1, _, by omega, by go_num, hid ⟨hJ3, by rw [arU_yes HON.out.symm, HRR.out, List.map_append, hJs.out.2]; rfl⟩, hid (kpB_t (kpB_t hnx.out (kpB_on (bfrom (on_alloc _ _) hb2) (by have := hnx.out.1.size; omega) hBvr)) hk3)⟩
          case measure => simp [intOf]; omega
        · gi_wp2
          refine bodyPost_ret (results_none rfl _ _ _) rfl ?_
          exact ⟨⟨_, rfl⟩, .inr ⟨_, ⟨k + 1, by omega, (by rw [arU_yes HON.out.symm, HRR.out, List.map_append, hJs.out.2]; rfl)⟩, hJx3⟩⟩
    · obtain rfl : k = m := by omega
      gi_wp2
      go_end0
      exact ⟨⟨_, rfl⟩, .inl ⟨_, by unfold arF; exact hJs.out.2.trans (by rw [Hm.out]), hJs.out.1⟩⟩

theorem aroundS_stops100 (n : Nat) (hn : 1 ≤ n) (Bg Bv n₀ b off m c : Nat) (v : Int) (es : List (Int × Int)) (hm : es.length = m) (hm30 : m ≤ 100) (hb : b < n₀) (w : World) (hn0 : n₀ ≤ w.heap.size)
    (hBg : w.cell? ⟨Bg, 1, none⟩ = some (.slice (some ⟨b, off, none⟩) m c)) (hBv : w.cell? ⟨Bv, 0, none⟩ = some (.int .i64 v)) (hBvl : Bv < w.heap.size) (hBgl : Bg < w.heap.size) (hr : ReadsE w b off es) :
    SeqStopsK Fence.wide n Try.prog 56 #[.pointer (some ⟨Bg, 0, none⟩), .pointer (some ⟨Bv, 0, none⟩)] (encS (es := es) (v := v)) (KpB n₀ Bv) (fun ys => ys.map Subtype.val = arF es v) (fun pre => ∃ k, k ≤ m ∧ pre.map Subtype.val = arU es v k) (arF es v).length w :=
  fun l J Jx W hW hJ _ hY h0 => around1S_in100 n hn l Bg Bv n₀ b off m c v es hm hm30 hb J Jx W (Nat.le_trans hn0 hW.size) (fun xs A B hj hbb => hJ xs A B none hj (below_grown hbb) (fun r e => by cases e)) hY
    ((hW.cell (p := ⟨Bg, 1, none⟩) hBgl).trans hBg) ((hW.cell (p := ⟨Bv, 0, none⟩) hBvl).trans hBv) (Nat.lt_of_lt_of_le hBvl hW.size) (hr.below hW (by omega)) h0

theorem aroundS_stops (n : Nat) (hn : 1 ≤ n) (Bg Bv n₀ b off m c : Nat) (v : Int) (es : List (Int × Int)) (hm : es.length = m) (hm30 : m ≤ 30) (hb : b < n₀) (w : World) (hn0 : n₀ ≤ w.heap.size)
    (hBg : w.cell? ⟨Bg, 1, none⟩ = some (.slice (some ⟨b, off, none⟩) m c)) (hBv : w.cell? ⟨Bv, 0, none⟩ = some (.int .i64 v)) (hBvl : Bv < w.heap.size) (hBgl : Bg < w.heap.size) (hr : ReadsE w b off es) :
    SeqStopsK Fence.wide n Try.prog 56 #[.pointer (some ⟨Bg, 0, none⟩), .pointer (some ⟨Bv, 0, none⟩)] (encS (es := es) (v := v)) (KpB n₀ Bv) (fun ys => ys.map Subtype.val = arF es v) (fun pre => ∃ k, k ≤ m ∧ pre.map Subtype.val = arU es v k) (arF es v).length w :=
  aroundS_stops100 n hn Bg Bv n₀ b off m c v es hm (by omega) hb w hn0 hBg hBv hBvl hBgl hr

end Go.Proofs.Ytaafbdpdpndplaa
