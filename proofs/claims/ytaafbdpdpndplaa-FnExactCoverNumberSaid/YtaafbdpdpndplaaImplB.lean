/- The program's count of the edges at each vertex. -/
import Derived.Test.YtaafbdpdpndplaaSpecC
import Derived.Deep.RegionWith

/- The program's tests on sizes, ends and counts. -/
namespace Go.Proofs.Ytaafbdpdpndplaa
open Go.RowKit

set_option maxHeartbeats 400000 in
theorem iBelow_yes (x n : Int) (w : World) (h : 0 ≤ x ∧ x < n) :
    Calls Try.prog 45 #[.int .i64 x, .int .i64 n] w fun e w' => e = .returned (.bool true) ∧ w = w' := by
  obtain ⟨h1, h2⟩ := h
  go_enter Try.func45, Try.ntmps45
  go_wp2
  go_ret
  exact ⟨rfl, rfl⟩

set_option maxHeartbeats 400000 in
theorem iBelow_no (x n : Int) (w : World) (h : ¬ (0 ≤ x ∧ x < n)) :
    Calls Try.prog 45 #[.int .i64 x, .int .i64 n] w fun e w' => e = .returned (.bool false) ∧ w = w' := by
  by_cases h1 : 0 ≤ x
  · have h2 : decide (x < n) = false := by simp; omega
    clear h
    go_enter Try.func45, Try.ntmps45
    go_wp2
    go_ret
    exact ⟨rfl, rfl⟩
  · have h2 : decide (0 ≤ x) = false := by simp; omega
    clear h h1
    go_enter Try.func45, Try.ntmps45
    go_wp2
    go_ret
    exact ⟨rfl, rfl⟩

set_option maxRecDepth 100000 in
set_option maxHeartbeats 1000000 in
theorem iEdges_size (n : Int) (p : Option Addr) (m c : Nat) (w : World) (h : n < 2 ∨ 20 < n) :
    Calls Try.prog 39 #[.int .i64 n, .slice p m c] w fun e w' => e = .returned (.bool false) ∧ Below w.heap.size w w' := by
  by_cases h1 : n < 2
  · clear h
    go_enter Try.func39, Try.ntmps39
    go_wp2
    go_ret
    exact ⟨rfl, Below.refl _ _⟩
  · have h2 : decide (n < 2) = false := by simpa using h1
    have h3 : 20 < n := by omega
    clear h h1
    go_enter Try.func39, Try.ntmps39
    go_wp2
    go_ret
    exact ⟨rfl, Below.refl _ _⟩

set_option maxRecDepth 100000 in
set_option maxHeartbeats 1000000 in
theorem iEdges_odd (n : Int) (p : Option Addr) (m c : Nat) (w : World) (h1 : 2 ≤ n) (h2 : n ≤ 20) (h3 : n % 2 = 1) :
    Calls Try.prog 39 #[.int .i64 n, .slice p m c] w fun e w' => e = .returned (.bool false) ∧ Below w.heap.size w w' := by
  have h4 : (n % 2 != 0) = true := by rw [h3]; rfl
  have h5 : decide (n < 2) = false := by simp; omega
  have h6 : decide (20 < n) = false := by simp; omega
  clear h3
  go_enter Try.func39, Try.ntmps39
  go_wp2
  go_ret
  exact ⟨rfl, Below.refl _ _⟩

set_option maxRecDepth 100000 in
set_option maxHeartbeats 1000000 in
theorem iEdges_len (n : Int) (p : Option Addr) (m c : Nat) (w : World) (h1 : 2 ≤ n) (h2 : n ≤ 20) (h3 : n % 2 = 0) (_hm : m ≤ 9223372036854775807) (hl : ¬ (m : Int) = 3 * n / 2) :
    Calls Try.prog 39 #[.int .i64 n, .slice p m c] w fun e w' => e = .returned (.bool false) ∧ Below w.heap.size w w' := by
  have h4 : (n % 2 != 0) = false := by rw [h3]; rfl
  have h5 : decide (n < 2) = false := by simp; omega
  have h6 : decide (20 < n) = false := by simp; omega
  have h7 : ((m : Int) != 3 * n / 2) = true := by simpa using hl
  clear h3 hl
  go_enter Try.func39, Try.ntmps39
  go_wp2
  go_ret
  exact ⟨rfl, Below.refl _ _⟩

set_option maxRecDepth 100000 in
set_option maxHeartbeats 2000000 in
theorem iEdges_loop (n : Int) (b off m c : Nat) (es : List (Int × Int)) (w : World) (h1 : 2 ≤ n) (h2 : n ≤ 20) (h3 : n % 2 = 0) (hm : m ≤ 30) (hl : (m : Int) = 3 * n / 2) (hlen : es.length = m) (hr : ReadsE w b off es) :
    Calls Try.prog 39 #[.int .i64 n, .slice (some ⟨b, off, none⟩) m c] w fun e w' => e = .returned (.bool (decide (∀ i, i < m → okEdge n (eA es i) (eB es i)))) ∧ Below w.heap.size w w' := by
  have h4 : (n % 2 != 0) = false := by rw [h3]; rfl
  have h5 : ((m : Int) != 3 * n / 2) = false := by simpa using hl
  have h6 : decide (n < 2) = false := by simp; omega
  have h7 : decide (20 < n) = false := by simp; omega
  have Hl := hid hlen
  have Hr := hid hr
  clear h3 hl hlen hr
  obtain ⟨r, hR⟩ : ∃ r : Bool, r = decide (∀ i, i < m → okEdge n (eA es i) (eB es i)) := ⟨_, rfl⟩
  rw [← hR]
  have HR := hid hR
  clear hR
  go_enter Try.func39, Try.ntmps39
  go_wp2
  go_loopw [28] (fun i wr => ∃ k : Nat, k ≤ m ∧ i = .int .i64 k ∧ Hid (∀ i, i < k → okEdge n (eA es i) (eB es i)) ∧ Below w.heap.size w wr) (fun i _ => m - (intOf i).toNat)
  case atStart => exact ⟨0, Nat.zero_le _, rfl, hid (fun i hi => by omega), Below.refl _ _⟩
  case round =>
    obtain ⟨k, hk, rfl, hE, hB⟩ := hrel
    clear h4 h5
    by_cases hlt : k < m
    · have hbb : b < w.heap.size := reads_lt Hr.out (by have := Hl.out; omega)
      have hc1 := (Hr.out.below hB hbb k (by have := Hl.out; omega)).1
      have hc2 := (Hr.out.below hB hbb k (by have := Hl.out; omega)).2
      obtain ⟨x, hx⟩ : ∃ x, eA es k = x := ⟨_, rfl⟩
      obtain ⟨y, hy⟩ : ∃ y, eB es k = y := ⟨_, rfl⟩
      rw [hx] at hc1
      rw [hy] at hc2
      have HX := hid hx
      have HY := hid hy
      have hsz := hB.size
      clear hx hy
      by_cases g1 : 0 ≤ x ∧ x < n
      · have G1 := hid g1
        clear g1
        by_cases g2 : 0 ≤ y ∧ y < n
        · have G2 := hid g2
          clear g2
          by_cases g3 : x = y
          · have g3' : (x == y) = true := by simpa using g3
            have G3 := hid g3
            clear g3
            go_wp2_with (first | (go_at_call_of 45 x; refine (iBelow_yes _ _ _ G1.out).mono ?_; rintro e w' ⟨rfl, rfl⟩) | (go_at_call_of 45 y; refine (iBelow_yes _ _ _ G2.out).mono ?_; rintro e w' ⟨rfl, rfl⟩))
            go_ret
            refine ⟨?_, hB.alloc hsz _⟩
            rw [HR.out, decide_eq_false (fun h => by have := h k hlt; rw [HX.out, HY.out] at this; exact this.2.2.2.2 G3.out)]
            rfl
          · have g3' : (x == y) = false := by simpa using g3
            have G3 := hid g3
            clear g3
            go_wp2_with (first | (go_at_call_of 45 x; refine (iBelow_yes _ _ _ G1.out).mono ?_; rintro e w' ⟨rfl, rfl⟩) | (go_at_call_of 45 y; refine (iBelow_yes _ _ _ G2.out).mono ?_; rintro e w' ⟨rfl, rfl⟩))
            go_roundw
            case rel =>
              refine ⟨k + 1, by omega, by go_num, hid (fun i hi => ?_), hB.alloc hsz _⟩
              rcases Nat.lt_or_ge i k with h | h
              · exact hE.out i h
              · obtain rfl : i = k := by omega
                rw [HX.out, HY.out]
                exact ⟨G1.out.1, G1.out.2, G2.out.1, G2.out.2, G3.out⟩
            case measure => simp [intOf]; omega
        · have G2 := hid g2
          clear g2
          go_wp2_with (first | (go_at_call_of 45 x; refine (iBelow_yes _ _ _ G1.out).mono ?_; rintro e w' ⟨rfl, rfl⟩) | (go_at_call_of 45 y; refine (iBelow_no _ _ _ G2.out).mono ?_; rintro e w' ⟨rfl, rfl⟩))
          go_ret
          refine ⟨?_, hB.alloc hsz _⟩
          rw [HR.out, decide_eq_false (fun h => by have := h k hlt; rw [HX.out, HY.out] at this; exact G2.out ⟨this.2.2.1, this.2.2.2.1⟩)]
          rfl
      · have G1 := hid g1
        clear g1
        go_wp2_with (go_at_call_of 45 x; refine (iBelow_no _ _ _ G1.out).mono ?_; rintro e w' ⟨rfl, rfl⟩)
        go_ret
        refine ⟨?_, hB.alloc hsz _⟩
        rw [HR.out, decide_eq_false (fun h => by have := h k hlt; rw [HX.out, HY.out] at this; exact G1.out ⟨this.1, this.2.1⟩)]
        rfl
    · go_wp2
      go_ret
      obtain rfl : k = m := by omega
      refine ⟨?_, hB⟩
      rw [HR.out, decide_eq_true hE.out]
      rfl

theorem iEdges_any (n : Int) (p : Option Addr) (m c : Nat) (es : List (Int × Int)) (w : World) (hm : m ≤ 9223372036854775807) (hlen : es.length = m) (hr : SeesE w p es) :
    Calls Try.prog 39 #[.int .i64 n, .slice p m c] w fun e w' => e = .returned (.bool (decide (Ends n es))) ∧ Below w.heap.size w w' := by
  by_cases h0 : 2 ≤ n ∧ n ≤ 20
  · obtain ⟨h1, h2⟩ := h0
    by_cases h3 : n % 2 = 0
    · by_cases hl : (m : Int) = 3 * n / 2
      · rcases hr with rfl | ⟨b, off, rfl, hr⟩
        · simp at hlen; omega
        · refine (iEdges_loop n b off m c es w h1 h2 h3 (by omega) hl hlen hr).mono fun e w' ⟨he, hb⟩ => ⟨?_, hb⟩
          rw [he]
          subst hlen
          by_cases h : ∀ i, i < es.length → okEdge n (eA es i) (eB es i)
          · rw [decide_eq_true h, decide_eq_true (show Ends n es from ⟨⟨h1, h2, h3, hl⟩, h⟩)]
          · rw [decide_eq_false h, decide_eq_false (fun e => h e.2)]
      · refine (iEdges_len n p m c w h1 h2 h3 hm hl).mono fun e w' ⟨he, hb⟩ => ⟨?_, hb⟩
        rw [he, decide_eq_false (fun e => hl (by rw [← hlen]; exact e.1.2.2.2))]
    · refine (iEdges_odd n p m c w h1 h2 (by omega)).mono fun e w' ⟨he, hb⟩ => ⟨?_, hb⟩
      rw [he, decide_eq_false (fun e => h3 e.1.2.2.1)]
  · refine (iEdges_size n p m c w (by omega)).mono fun e w' ⟨he, hb⟩ => ⟨?_, hb⟩
    rw [he, decide_eq_false (fun e => h0 ⟨e.1.1, e.1.2.1⟩)]

end Go.Proofs.Ytaafbdpdpndplaa

namespace Go.Proofs.Ytaafbdpdpndplaa
open Go.RowKit

set_option maxRecDepth 100000 in
set_option maxHeartbeats 2000000 in
theorem iThree_any (N b off m c : Nat) (es : List (Int × Int)) (w : World) (hE : Ends N es) (hlen : es.length = m) (hr : ReadsE w b off es) :
    Calls Try.prog 40 #[.int .i64 N, .slice (some ⟨b, off, none⟩) m c] w fun e w' => e = .returned (.bool (decide (Cubic N es))) ∧ Below w.heap.size w w' := by
  obtain ⟨⟨s1, s2, _, s4⟩, he⟩ := hE
  have hN : N ≤ 20 := by omega
  have hm : m ≤ 30 := by omega
  have Hl := hid hlen
  have Hr := hid hr
  have He := hid he
  clear s1 s2 s4 hlen hr he
  obtain ⟨r, hR⟩ : ∃ r : Bool, r = decide (Cubic N es) := ⟨_, rfl⟩
  rw [← hR]
  have HR := hid hR
  clear hR
  obtain ⟨i0, hi, hz0, hz1, hz2⟩ := info_parts infoInt
  go_enter Try.func40, Try.ntmps40
  go_wp2_with (at_make; refine wpList_make_full _ rfl _ _ 46 rfl w.heap.size 2 i0 (.int .i64 0) 1 Try.underlying46 hi hz0 hz1 _ _ _ _ N rfl rfl rfl rfl (by rw [hz2]; omega) (by unfold maxLen; omega) (Nat.le_refl _) ?_; intro w1 hown hgrow)
  have Ho := hid (OwnI.made hown)
  have Hb := hid ((Below.refl w.heap.size w).grown hgrow (Nat.le_refl _) (fun k e => by cases e))
  clear hown hgrow hi hz0 hz1 hz2
  go_loopw [14] (fun i wr => ∃ (k : Nat) (cs : List Int), k ≤ m ∧ i = .int .i64 k ∧ Hid (cs.length = N ∧ (∀ v, v < N → eI cs v = deg (es.take k) v) ∧ OwnI wr w.heap.size N cs) ∧ Below w.heap.size w wr) (fun i _ => m - (intOf i).toNat)
  case atStart => exact ⟨0, _, Nat.zero_le _, rfl, hid ⟨List.length_replicate, fun v hv => by rw [eI_lt (by simpa using hv)]; simp [deg], Ho.out⟩, Hb.out⟩
  case round =>
    obtain ⟨k, cs, hk, rfl, hC, hB⟩ := hrel
    clear Ho Hb
    by_cases hlt : k < m
    · have hbb : b < w.heap.size := reads_lt Hr.out (by have := Hl.out; omega)
      have hc1 := (Hr.out.below hB hbb k (by have := Hl.out; omega)).1
      have hc2 := (Hr.out.below hB hbb k (by have := Hl.out; omega)).2
      have hok := He.out k (by have := Hl.out; omega)
      obtain ⟨X, hX⟩ : ∃ X : Nat, eA es k = X := ⟨_, (Int.toNat_of_nonneg hok.1).symm⟩
      obtain ⟨Y, hY⟩ : ∃ Y : Nat, eB es k = Y := ⟨_, (Int.toNat_of_nonneg hok.2.2.1).symm⟩
      have hXN : X < N := by have := hok.2.1; omega
      have hYN : Y < N := by have := hok.2.2.2.1; omega
      have hXY : X ≠ Y := by have := hok.2.2.2.2; omega
      rw [hX] at hc1
      rw [hY] at hc2
      have g1 := hC.out.2.2.reads X (by have := hC.out.1; omega)
      have g2 := hC.out.2.2.reads Y (by have := hC.out.1; omega)
      have f1 := hC.out.2.2.free X
      have f2 := hC.out.2.2.free Y
      have d1 := deg_le (es.take k) X
      have d2 := deg_le (es.take k) Y
      rw [← hC.out.2.1 X hXN] at d1
      rw [← hC.out.2.1 Y hYN] at d2
      have hkl : (es.take k).length ≤ 30 := by rw [List.length_take]; omega
      obtain ⟨cX, hcX⟩ : ∃ q, eI cs X = q := ⟨_, rfl⟩
      obtain ⟨cY, hcY⟩ : ∃ q, eI cs Y = q := ⟨_, rfl⟩
      rw [Nat.zero_add] at g1 g2
      rw [hcX] at g1 d1
      rw [hcY] at g2 d2
      have d3 : 0 ≤ cX := d1.1
      have d4 : cX ≤ 60 := by omega
      have d5 : 0 ≤ cY := d2.1
      have d6 : cY ≤ 60 := by omega
      have hYX : ¬ Y = X := fun e => hXY e.symm
      have hbg : ¬ b = w.heap.size := by omega
      have hgz : w.heap.size < wr.heap.size := hC.out.2.2.lt
      have HX := hid hX
      have HY := hid hY
      have HcX := hid hcX
      have HcY := hid hcY
      have Hok := hid hok
      clear d1 d2 hX hY hcX hcY hok hkl
      go_wp2
      go_roundw
      case rel =>
        refine ⟨k + 1, _, by omega, by go_num, hid ⟨?_, count_step (X := X) (Y := Y) (by have := Hl.out; omega) hC.out.1 HX.out HY.out hXY hXN hYN hC.out.2.1, ?_⟩, ?_⟩
        · simp [hC.out.1]
        · rw [HcX.out, HcY.out]
          exact ((hC.out.2.2.set (by have := hC.out.1; omega) _).set (by simp; have := hC.out.1; omega) _).alloc _
        · exact ((hB.setCell (Nat.le_refl _) _).setCell (Nat.le_refl _) _).alloc (by simpa using hB.size) _
      case measure => simp [intOf]; omega
    · obtain rfl : k = m := by omega
      have hcs : Hid (cs.length = N ∧ ∀ v, v < N → eI cs v = deg es v) := hid ⟨hC.out.1, fun v hv => by
        have h := hC.out.2.1 v hv
        rw [List.take_of_length_le (by have := Hl.out; omega)] at h
        exact h⟩
      go_wp2
      go_loop [35] (fun v => ∃ j : Nat, j ≤ N ∧ v = .int .i64 j ∧ Hid (∀ v, v < j → eI cs v = 3)) (fun v => N - (intOf v).toNat)
      case atStart => exact ⟨0, Nat.zero_le _, rfl, hid (fun v hv => by omega)⟩
      case round =>
        obtain ⟨j, hj, rfl, hJ⟩ := hrel
        by_cases hlj : j < N
        · have g1 := hC.out.2.2.reads j (by have := hC.out.1; omega)
          rw [Nat.zero_add] at g1
          by_cases h3 : eI cs j = 3
          · have H3 := hid h3
            rw [h3] at g1
            clear h3
            go_wp2
            go_round
            case rel =>
              refine ⟨j + 1, by omega, by go_num, hid fun v hv => ?_⟩
              rcases Nat.lt_or_ge v j with h | h
              · exact hJ.out v h
              · obtain rfl : v = j := by omega
                exact H3.out
            case measure => simp [intOf]; omega
          · have h3' : (eI cs j != 3) = true := by simpa using h3
            have H3 := hid h3
            clear h3
            go_wp2
            go_ret
            refine ⟨?_, hB⟩
            rw [HR.out, decide_eq_false (fun h => H3.out ((hcs.out.2 j hlj).trans (h j hlj)))]
            rfl
        · go_wp2
          go_ret
          obtain rfl : j = N := by omega
          refine ⟨?_, hB⟩
          rw [HR.out, decide_eq_true (show Cubic j es from fun v hv => (hcs.out.2 v hv).symm.trans (hJ.out v hv))]
          rfl

end Go.Proofs.Ytaafbdpdpndplaa
