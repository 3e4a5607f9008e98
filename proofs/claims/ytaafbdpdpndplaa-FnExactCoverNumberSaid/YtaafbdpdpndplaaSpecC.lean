/- The model's order of edges, and its test of graphs. -/
import Derived.Test.YtaafbdpdpndplaaLawsB

/- The model's tests on graphs: ranges, sizes and ends. -/
namespace Go.Proofs.Ytaafbdpdpndplaa
open Go.RowKit

theorem quiet_same {P : Program} {f : FuncId} {args : Array Value} {w : World} {n : Nat} {v : Value}
    (h : Calls P f args (w.drewN n) fun e w' => e = .returned v ∧ w.drewN n = w') : Calls P f args (w.drewN n) fun e w'' => e = .returned v ∧ ∃ m, w'' = w.drewN m :=
  Calls.quiet_of_same (h.mono fun _ _ ⟨a, b⟩ => ⟨a, b.symm⟩)

set_option maxHeartbeats 400000 in
theorem sIn_yes (x lo hi : Int) (w : World) (h : lo ≤ x ∧ x ≤ hi) :
    Calls Try.prog 30 #[.int .i64 x, .int .i64 lo, .int .i64 hi] w fun e w' => e = .returned (.bool true) ∧ w = w' := by
  obtain ⟨h1, h2⟩ := h
  go_enter Try.func30, Try.ntmps30
  go_wp2
  go_ret
  exact ⟨rfl, rfl⟩

set_option maxHeartbeats 400000 in
theorem sIn_no (x lo hi : Int) (w : World) (h : x < lo ∨ hi < x) :
    Calls Try.prog 30 #[.int .i64 x, .int .i64 lo, .int .i64 hi] w fun e w' => e = .returned (.bool false) ∧ w = w' := by
  by_cases h1 : lo ≤ x
  · have h2 : decide (x ≤ hi) = false := by simp; omega
    clear h
    go_enter Try.func30, Try.ntmps30
    go_wp2
    go_ret
    exact ⟨rfl, rfl⟩
  · have h2 : x < lo := by omega
    clear h h1
    go_enter Try.func30, Try.ntmps30
    go_wp2
    go_ret
    exact ⟨rfl, rfl⟩

set_option maxRecDepth 100000 in
set_option maxHeartbeats 1000000 in
theorem sEnds_size (n : Int) (p : Option Addr) (m c : Nat) (w : World) (h : n < 2 ∨ 20 < n) :
    Calls Try.prog 19 #[.int .i64 n, .slice p m c] w fun e w' => e = .returned (.int .i64 2) ∧ Below w.heap.size w w' := by
  have H := hid h
  clear h
  go_enter Try.func19, Try.ntmps19
  go_wp2_with (go_at_call 30; refine (sIn_no _ _ _ _ H.out).mono ?_; rintro e w' ⟨rfl, rfl⟩)
  go_ret
  exact ⟨rfl, Below.refl _ _⟩

set_option maxRecDepth 100000 in
set_option maxHeartbeats 1000000 in
theorem sEnds_odd (n : Int) (p : Option Addr) (m c : Nat) (w : World) (h1 : 2 ≤ n) (h2 : n ≤ 20) (h3 : n % 2 = 1) :
    Calls Try.prog 19 #[.int .i64 n, .slice p m c] w fun e w' => e = .returned (.int .i64 2) ∧ Below w.heap.size w w' := by
  have h4 : (n % 2 != 0) = true := by rw [h3]; rfl
  clear h3
  go_enter Try.func19, Try.ntmps19
  go_wp2_with (go_at_call 30; refine (sIn_yes _ _ _ _ ⟨h1, h2⟩).mono ?_; rintro e w' ⟨rfl, rfl⟩)
  go_ret
  exact ⟨rfl, Below.refl _ _⟩

set_option maxRecDepth 100000 in
set_option maxHeartbeats 1000000 in
theorem sEnds_len (n : Int) (p : Option Addr) (m c : Nat) (w : World) (h1 : 2 ≤ n) (h2 : n ≤ 20) (h3 : n % 2 = 0) (_hm : m ≤ 9223372036854775807) (hl : ¬ (m : Int) = 3 * n / 2) :
    Calls Try.prog 19 #[.int .i64 n, .slice p m c] w fun e w' => e = .returned (.int .i64 2) ∧ Below w.heap.size w w' := by
  have h4 : (n % 2 != 0) = false := by rw [h3]; rfl
  have h5 : ((m : Int) != 3 * n / 2) = true := by simpa using hl
  clear h3 hl
  go_enter Try.func19, Try.ntmps19
  go_wp2_with (go_at_call 30; refine (sIn_yes _ _ _ _ ⟨h1, h2⟩).mono ?_; rintro e w' ⟨rfl, rfl⟩)
  go_ret
  exact ⟨rfl, Below.refl _ _⟩


set_option maxRecDepth 100000 in
set_option maxHeartbeats 2000000 in
theorem sEnds_loop (n : Int) (b off m c : Nat) (es : List (Int × Int)) (w : World) (h1 : 2 ≤ n) (h2 : n ≤ 20) (h3 : n % 2 = 0) (hm : m ≤ 30) (hl : (m : Int) = 3 * n / 2) (hlen : es.length = m) (hr : ReadsE w b off es) :
    Calls Try.prog 19 #[.int .i64 n, .slice (some ⟨b, off, none⟩) m c] w fun e w' => e = .returned (.int .i64 (if ∀ i, i < m → okEdge n (eA es i) (eB es i) then 0 else 2)) ∧ Below w.heap.size w w' := by
  have h4 : (n % 2 != 0) = false := by rw [h3]; rfl
  have h5 : ((m : Int) != 3 * n / 2) = false := by simpa using hl
  have Hl := hid hlen
  have Hr := hid hr
  clear h3 hl hlen hr
  obtain ⟨r, hR⟩ : ∃ r : Int, r = (if ∀ i, i < m → okEdge n (eA es i) (eB es i) then 0 else 2) := ⟨_, rfl⟩
  rw [← hR]
  have HR := hid hR
  clear hR
  go_enter Try.func19, Try.ntmps19
  go_wp2_with (go_at_call 30; refine (sIn_yes _ _ _ _ ⟨h1, h2⟩).mono ?_; rintro e w' ⟨rfl, rfl⟩)
  go_loopw [5] (fun i wr => ∃ k : Nat, k ≤ m ∧ i = .int .i64 k ∧ Hid (∀ i, i < k → okEdge n (eA es i) (eB es i)) ∧ Below w.heap.size w wr) (fun i _ => m - (intOf i).toNat)
  case atStart => exact ⟨0, Nat.zero_le _, rfl, hid (fun i hi => by omega), Below.refl _ _⟩
  case round =>
    obtain ⟨k, hk, rfl, hE, hB⟩ := hrel
    clear h4 h5
    by_cases hlt : k < m
    · have hbb : b < w.heap.size := reads_lt Hr.out (by have := Hl.out; omega)
      have hc1 := (Hr.out.below hB hbb k (by have := Hl.out; omega)).1
      have hc2 := (Hr.out.below hB hbb k (by have := Hl.out; omega)).2
      obtain ⟨x, hx⟩ : ∃ x, eA es k = x := ⟨_, rfl⟩
      obtain ⟨y, hy⟩ : ∃ y, eB es k = y := ⟨_, rfl⟩
      rw [hx] at hc1
      rw [hy] at hc2
      have HX := hid hx
      have HY := hid hy
      clear hx hy
      by_cases g1 : 0 ≤ x ∧ x ≤ n - 1
      · have G1 := hid g1
        clear g1
        by_cases g2 : 0 ≤ y ∧ y ≤ n - 1
        · have G2 := hid g2
          clear g2
          by_cases g3 : x = y
          · have g3' : (x == y) = true := by simpa using g3
            have G3 := hid g3
            clear g3
            go_wp2
            go_quiet ((go_at_call 30; first | exact quiet_same (sIn_yes _ _ _ _ G1.out) | exact quiet_same (sIn_yes _ _ _ _ G2.out)))
            go_wp2
            go_ret
            refine ⟨?_, by simp only [bdn]; exact hB⟩
            rw [HR.out, if_neg (fun h => by have := h k hlt; rw [HX.out, HY.out] at this; exact this.2.2.2.2 G3.out)]
            rfl
          · have g3' : (x == y) = false := by simpa using g3
            have G3 := hid g3
            clear g3
            go_wp2
            go_quiet ((go_at_call 30; first | exact quiet_same (sIn_yes _ _ _ _ G1.out) | exact quiet_same (sIn_yes _ _ _ _ G2.out)))
            go_wp2
            go_roundw
            case rel =>
              refine ⟨k + 1, by omega, by go_num, hid (fun i hi => ?_), by simp only [bdn]; exact hB⟩
              rcases Nat.lt_or_ge i k with h | h
              · exact hE.out i h
              · obtain rfl : i = k := by omega
                rw [HX.out, HY.out]
                have := G1.out
                have := G2.out
                exact ⟨by omega, by omega, by omega, by omega, G3.out⟩
            case measure => simp [intOf]; omega
        · have g2' : y < 0 ∨ n - 1 < y := by omega
          have G2 := hid g2'
          clear g2 g2'
          go_wp2
          go_quiet ((go_at_call 30; first | exact quiet_same (sIn_yes _ _ _ _ G1.out) | exact quiet_same (sIn_no _ _ _ _ G2.out)))
          go_wp2
          go_ret
          refine ⟨?_, by simp only [bdn]; exact hB⟩
          rw [HR.out, if_neg (fun h => by have := h k hlt; rw [HX.out, HY.out] at this; have := this.2.2; have := G2.out; omega)]
          rfl
      · have g1' : x < 0 ∨ n - 1 < x := by omega
        have G1 := hid g1'
        clear g1 g1'
        go_wp2
        go_quiet ((go_at_call 30; exact quiet_same (sIn_no _ _ _ _ G1.out)))
        go_wp2
        go_ret
        refine ⟨?_, by simp only [bdn]; exact hB⟩
        rw [HR.out, if_neg (fun h => by have := h k hlt; rw [HX.out, HY.out] at this; have h6 := this.1; have h7 := this.2.1; have := G1.out; omega)]
        rfl
    · go_wp2
      go_ret
      obtain rfl : k = m := by omega
      refine ⟨?_, hB⟩
      rw [HR.out, if_pos hE.out]
      rfl

theorem sEnds_any (n : Int) (p : Option Addr) (m c : Nat) (es : List (Int × Int)) (w : World) (hm : m ≤ 9223372036854775807) (hlen : es.length = m) (hr : SeesE w p es) :
    Calls Try.prog 19 #[.int .i64 n, .slice p m c] w fun e w' => e = .returned (.int .i64 (if Ends n es then 0 else 2)) ∧ Below w.heap.size w w' := by
  by_cases h0 : 2 ≤ n ∧ n ≤ 20
  · obtain ⟨h1, h2⟩ := h0
    by_cases h3 : n % 2 = 0
    · by_cases hl : (m : Int) = 3 * n / 2
      · rcases hr with rfl | ⟨b, off, rfl, hr⟩
        · simp at hlen; omega
        · refine (sEnds_loop n b off m c es w h1 h2 h3 (by omega) hl hlen hr).mono fun e w' ⟨he, hb⟩ => ⟨?_, hb⟩
          rw [he]
          subst hlen
          by_cases h : ∀ i, i < es.length → okEdge n (eA es i) (eB es i)
          · rw [if_pos h, if_pos ⟨⟨h1, h2, h3, hl⟩, h⟩]
          · rw [if_neg h, if_neg (fun e => h e.2)]
      · refine (sEnds_len n p m c w h1 h2 h3 hm hl).mono fun e w' ⟨he, hb⟩ => ⟨?_, hb⟩
        rw [he, if_neg (fun e => hl (by rw [← hlen]; exact e.1.2.2.2))]
    · refine (sEnds_odd n p m c w h1 h2 (by omega)).mono fun e w' ⟨he, hb⟩ => ⟨?_, hb⟩
      rw [he, if_neg (fun e => h3 e.1.2.2.1)]
  · refine (sEnds_size n p m c w (by omega)).mono fun e w' ⟨he, hb⟩ => ⟨?_, hb⟩
    rw [he, if_neg (fun e => h0 ⟨e.1.1, e.1.2.1⟩)]

end Go.Proofs.Ytaafbdpdpndplaa

/- The model's count of the edges at each vertex. -/
namespace Go.Proofs.Ytaafbdpdpndplaa
open Go.RowKit

set_option maxRecDepth 100000 in
set_option maxHeartbeats 2000000 in
theorem sCubic_any (N b off m c : Nat) (es : List (Int × Int)) (w : World) (hE : Ends N es) (hlen : es.length = m) (hr : ReadsE w b off es) :
    Calls Try.prog 20 #[.int .i64 N, .slice (some ⟨b, off, none⟩) m c] w fun e w' => e = .returned (.bool (decide (Cubic N es))) ∧ Below w.heap.size w w' := by
  obtain ⟨⟨s1, s2, _, s4⟩, he⟩ := hE
  have hN : N ≤ 20 := by omega
  have hm : m ≤ 30 := by omega
  have Hl := hid hlen
  have Hr := hid hr
  have He := hid he
  clear s1 s2 s4 hlen hr he
  obtain ⟨r, hR⟩ : ∃ r : Bool, r = decide (Cubic N es) := ⟨_, rfl⟩
  rw [← hR]
  have HR := hid hR
  clear hR
  obtain ⟨i0, hi, hz0, hz1, hz2⟩ := info_parts infoInt
  go_enter Try.func20, Try.ntmps20
  go_wp2_with (at_make; refine wpList_make_full _ rfl _ _ 46 rfl w.heap.size 2 i0 (.int .i64 0) 1 Try.underlying46 hi hz0 hz1 _ _ _ _ N rfl rfl rfl rfl (by rw [hz2]; omega) (by unfold maxLen; omega) (Nat.le_refl _) ?_; intro w1 hown hgrow)
  have Ho := hid (OwnI.made hown)
  have Hb := hid ((Below.refl w.heap.size w).grown hgrow (Nat.le_refl _) (fun k e => by cases e))
  clear hown hgrow hi hz0 hz1 hz2
  go_loopw [6] (fun i wr => ∃ (k : Nat) (cs : List Int), k ≤ m ∧ i = .int .i64 k ∧ Hid (cs.length = N ∧ (∀ v, v < N → eI cs v = deg (es.take k) v) ∧ OwnI wr w.heap.size N cs) ∧ Below w.heap.size w wr) (fun i _ => m - (intOf i).toNat)
  case atStart => exact ⟨0, _, Nat.zero_le _, rfl, hid ⟨List.length_replicate, fun v hv => by rw [eI_lt (by simpa using hv)]; simp [deg], Ho.out⟩, Hb.out⟩
  case round =>
    obtain ⟨k, cs, hk, rfl, hC, hB⟩ := hrel
    clear Ho Hb
    by_cases hlt : k < m
    · have hbb : b < w.heap.size := reads_lt Hr.out (by have := Hl.out; omega)
      have hc1 := (Hr.out.below hB hbb k (by have := Hl.out; omega)).1
      have hc2 := (Hr.out.below hB hbb k (by have := Hl.out; omega)).2
      have hok := He.out k (by have := Hl.out; omega)
      obtain ⟨X, hX⟩ : ∃ X : Nat, eA es k = X := ⟨_, (Int.toNat_of_nonneg hok.1).symm⟩
      obtain ⟨Y, hY⟩ : ∃ Y : Nat, eB es k = Y := ⟨_, (Int.toNat_of_nonneg hok.2.2.1).symm⟩
      have hXN : X < N := by have := hok.2.1; omega
      have hYN : Y < N := by have := hok.2.2.2.1; omega
      have hXY : X ≠ Y := by have := hok.2.2.2.2; omega
      rw [hX] at hc1
      rw [hY] at hc2
      have g1 := hC.out.2.2.reads X (by have := hC.out.1; omega)
      have g2 := hC.out.2.2.reads Y (by have := hC.out.1; omega)
      have f1 := hC.out.2.2.free X
      have f2 := hC.out.2.2.free Y
      have d1 := deg_le (es.take k) X
      have d2 := deg_le (es.take k) Y
      rw [← hC.out.2.1 X hXN] at d1
      rw [← hC.out.2.1 Y hYN] at d2
      have hkl : (es.take k).length ≤ 30 := by rw [List.length_take]; omega
      obtain ⟨cX, hcX⟩ : ∃ q, eI cs X = q := ⟨_, rfl⟩
      obtain ⟨cY, hcY⟩ : ∃ q, eI cs Y = q := ⟨_, rfl⟩
      rw [Nat.zero_add] at g1 g2
      rw [hcX] at g1 d1
      rw [hcY] at g2 d2
      have d3 : 0 ≤ cX := d1.1
      have d4 : cX ≤ 60 := by omega
      have d5 : 0 ≤ cY := d2.1
      have d6 : cY ≤ 60 := by omega
      have hYX : ¬ Y = X := fun e => hXY e.symm
      have hbg : ¬ b = w.heap.size := by omega
      have HX := hid hX
      have HY := hid hY
      have HcX := hid hcX
      have HcY := hid hcY
      have Hok := hid hok
      clear d1 d2 hX hY hcX hcY hok hkl
      go_wp2
      go_roundw
      case rel =>
        refine ⟨k + 1, _, by omega, by go_num, hid ⟨?_, count_step (X := X) (Y := Y) (by have := Hl.out; omega) hC.out.1 HX.out HY.out hXY hXN hYN hC.out.2.1, ?_⟩, ?_⟩
        · simp [hC.out.1]
        · rw [HcX.out, HcY.out]
          exact (hC.out.2.2.set (by have := hC.out.1; omega) _).set (by simp; have := hC.out.1; omega) _
        · exact (hB.setCell (Nat.le_refl _) _).setCell (Nat.le_refl _) _
      case measure => simp [intOf]; omega
    · obtain rfl : k = m := by omega
      have hcs : Hid (cs.length = N ∧ ∀ v, v < N → eI cs v = deg es v) := hid ⟨hC.out.1, fun v hv => by
        have h := hC.out.2.1 v hv
        rw [List.take_of_length_le (by have := Hl.out; omega)] at h
        exact h⟩
      go_wp2
      go_loop [7] (fun v => ∃ j : Nat, j ≤ N ∧ v = .int .i64 j ∧ Hid (∀ v, v < j → eI cs v = 3)) (fun v => N - (intOf v).toNat)
      case atStart => exact ⟨0, Nat.zero_le _, rfl, hid (fun v hv => by omega)⟩
      case round =>
        obtain ⟨j, hj, rfl, hJ⟩ := hrel
        by_cases hlj : j < N
        · have g1 := hC.out.2.2.reads j (by have := hC.out.1; omega)
          rw [Nat.zero_add] at g1
          by_cases h3 : eI cs j = 3
          · have H3 := hid h3
            rw [h3] at g1
            clear h3
            go_wp2
            go_round
            case rel =>
              refine ⟨j + 1, by omega, by go_num, hid fun v hv => ?_⟩
              rcases Nat.lt_or_ge v j with h | h
              · exact hJ.out v h
              · obtain rfl : v = j := by omega
                exact H3.out
            case measure => simp [intOf]; omega
          · have h3' : (eI cs j != 3) = true := by simpa using h3
            have H3 := hid h3
            clear h3
            go_wp2
            go_ret
            refine ⟨?_, hB⟩
            rw [HR.out, decide_eq_false (fun h => H3.out ((hcs.out.2 j hlj).trans (h j hlj)))]
            rfl
        · go_wp2
          go_ret
          obtain rfl : j = N := by omega
          refine ⟨?_, hB⟩
          rw [HR.out, decide_eq_true (show Cubic j es from fun v hv => (hcs.out.2 v hv).symm.trans (hJ.out v hv))]
          rfl

end Go.Proofs.Ytaafbdpdpndplaa

namespace Go.Proofs.Ytaafbdpdpndplaa
open Go.RowKit

set_option maxHeartbeats 1000000 in
theorem sBefore_yes (a b c d : Int) (w : World) (h : ltE a b c d) :
    Calls Try.prog 21 #[.agg #[.int .i64 a, .int .i64 b], .agg #[.int .i64 c, .int .i64 d]] w fun e w' => e = .returned (.bool true) ∧ Below w.heap.size w w' := by
  by_cases h1 : a < c
  · clear h
    go_enter Try.func21, Try.ntmps21
    go_wp2
    go_ret
    exact ⟨rfl, by go_grown⟩
  · obtain ⟨rfl, h2⟩ : a = c ∧ b < d := by rcases h with h | h; exact absurd h h1; exact h
    clear h h1
    have h0 : decide (a < a) = false := by simp
    go_enter Try.func21, Try.ntmps21
    go_wp2
    go_ret
    exact ⟨rfl, by go_grown⟩

set_option maxHeartbeats 1000000 in
theorem sBefore_no (a b c d : Int) (w : World) (h : ¬ ltE a b c d) :
    Calls Try.prog 21 #[.agg #[.int .i64 a, .int .i64 b], .agg #[.int .i64 c, .int .i64 d]] w fun e w' => e = .returned (.bool false) ∧ Below w.heap.size w w' := by
  have h1 : decide (a < c) = false := decide_eq_false (fun e => h (.inl e))
  by_cases h2 : a = c
  · subst h2
    have h3 : decide (b < d) = false := decide_eq_false (fun e => h (.inr ⟨rfl, e⟩))
    clear h
    go_enter Try.func21, Try.ntmps21
    go_wp2
    go_ret
    exact ⟨rfl, by go_grown⟩
  · have h3 : (a == c) = false := by simpa using h2
    clear h h2
    go_enter Try.func21, Try.ntmps21
    go_wp2
    go_ret
    exact ⟨rfl, by go_grown⟩

set_option maxRecDepth 100000 in
set_option maxHeartbeats 1000000 in
theorem sIs_ends (n : Int) (p : Option Addr) (m c : Nat) (es : List (Int × Int)) (w : World) (hm : m ≤ 9223372036854775807) (hlen : es.length = m) (hr : SeesE w p es) (h : ¬ Ends n es) :
    Calls Try.prog 10 #[.agg #[.int .i64 n, .slice p m c]] w fun e w' => e = .returned (.bool false) ∧ Below w.heap.size w w' := by
  have Hl := hid hlen
  have Hr := hid hr
  have H := hid h
  clear hlen hr h
  go_enter Try.func10, Try.ntmps10
  go_wp2_with (go_at_call 19; refine (sEnds_any _ _ _ _ es _ hm Hl.out (Hr.out.alloc _)).mono ?_; rw [if_neg H.out]; rintro e w2 ⟨rfl, hb2⟩)
  go_ret
  exact ⟨rfl, bfrom (by go_grown) hb2⟩

set_option maxRecDepth 100000 in
set_option maxHeartbeats 1000000 in
theorem sIs_cubic (N b off m c : Nat) (es : List (Int × Int)) (w : World) (hm : m ≤ 9223372036854775807) (hlen : es.length = m) (hr : ReadsE w b off es) (h : Ends N es) (hC : ¬ Cubic N es) :
    Calls Try.prog 10 #[.agg #[.int .i64 N, .slice (some ⟨b, off, none⟩) m c]] w fun e w' => e = .returned (.bool false) ∧ Below w.heap.size w w' := by
  have Hl := hid hlen
  have Hr := hid hr
  have H := hid h
  have HC := hid hC
  clear hlen hr h hC
  go_enter Try.func10, Try.ntmps10
  go_wp2_with (first | (go_at_call 19; refine (sEnds_any _ _ _ _ es _ hm Hl.out (SeesE.alloc (.inr ⟨b, off, rfl, Hr.out⟩) _)).mono ?_; rw [if_pos H.out]; rintro e w2 ⟨rfl, hb2⟩; obtain ⟨hc2, hf2⟩ := bcells hb2; have hz := hb2.size; simp at hz) | (go_at_call 20; refine (sCubic_any _ _ _ _ _ es _ H.out Hl.out ((Hr.out.on ((Below.refl _ _).alloc (Nat.le_refl _) _)).on hb2)).mono ?_; rw [decide_eq_false HC.out]; rintro e w3 ⟨rfl, hb3⟩))
  go_ret
  exact ⟨rfl, bfrom (bfrom (by go_grown) hb2) hb3⟩

set_option maxRecDepth 100000 in
set_option maxHeartbeats 2000000 in
theorem sIs_loop (N b off m c : Nat) (es : List (Int × Int)) (w : World) (hm : m ≤ 9223372036854775807) (hlen : es.length = m) (hr : ReadsE w b off es) (h : Ends N es) (hC : Cubic N es) :
    Calls Try.prog 10 #[.agg #[.int .i64 N, .slice (some ⟨b, off, none⟩) m c]] w fun e w' => e = .returned (.bool (decide (InOrder es))) ∧ Below w.heap.size w w' := by
  have Hl := hid hlen
  have Hr := hid hr
  have H := hid h
  have HC := hid hC
  clear hlen hr h hC
  obtain ⟨r, hR⟩ : ∃ r : Bool, r = decide (InOrder es) := ⟨_, rfl⟩
  rw [← hR]
  have HR := hid hR
  clear hR
  go_enter Try.func10, Try.ntmps10
  go_wp2_with (first | (go_at_call 19; refine (sEnds_any _ _ _ _ es _ hm Hl.out (SeesE.alloc (.inr ⟨b, off, rfl, Hr.out⟩) _)).mono ?_; rw [if_pos H.out]; rintro e w2 ⟨rfl, hb2⟩; obtain ⟨hc2, hf2⟩ := bcells hb2; have hz := hb2.size; simp at hz) | (go_at_call 20; refine (sCubic_any _ _ _ _ _ es _ H.out Hl.out ((Hr.out.on ((Below.refl _ _).alloc (Nat.le_refl _) _)).on hb2)).mono ?_; rw [decide_eq_true HC.out]; rintro e w3 ⟨rfl, hb3⟩))
  have hbx := hid (bfrom (w := w) (bfrom (by go_grown) hb2) hb3)
  have hcx : w3.cell? ⟨w.heap.size, 1, none⟩ = some (.slice (some ⟨b, off, none⟩) m c) := by
    rw [(bcells hb3).1 _ _ (by omega), hc2 _ _ (by simp)]
    simp
  have hzx : w.heap.size < w3.heap.size := by have := hb3.size; omega
  clear hb2 hb3 hc2 hf2 hz
  go_loopw [3] (fun i wr => ∃ k : Nat, k ≤ m ∧ i = .int .i64 k ∧ Hid (∀ i, i < k → okAt es i) ∧ Below w.heap.size w wr ∧ wr.cell? ⟨w.heap.size, 1, none⟩ = some (.slice (some ⟨b, off, none⟩) m c)) (fun i _ => m - (intOf i).toNat)
  case atStart => exact ⟨0, Nat.zero_le _, rfl, hid (fun i hi => by omega), hbx.out, hcx⟩
  case round =>
    obtain ⟨k, hk, rfl, hE, hB, hx⟩ := hrel
    clear hbx hcx hzx
    by_cases hlt : k < m
    · have hbb : b < w.heap.size := reads_lt Hr.out (by have := Hl.out; omega)
      have hc1 := (Hr.out.below hB hbb k (by have := Hl.out; omega)).1
      have hc2 := (Hr.out.below hB hbb k (by have := Hl.out; omega)).2
      by_cases g1 : eB es k < eA es k
      · have G1 := hid g1
        go_wp2
        go_quiet (fail)
        go_wp2
        go_ret
        refine ⟨?_, by simp only [bdn]; exact hB⟩
        rw [HR.out, decide_eq_false (fun h => by have := (h k (by have := Hl.out; omega)).1; have := G1.out; omega)]
        rfl
      · have g1' : decide (eB es k < eA es k) = false := by simpa using g1
        have G1 := hid g1
        clear g1
        by_cases k0 : k = 0
        · subst k0
          rw [Nat.zero_mul, Nat.add_zero] at hc1 hc2
          go_wp2
          go_quiet (fail)
          go_wp2
          go_roundw
          case rel =>
            refine ⟨1, by omega, rfl, hid fun i hi => ?_, by simp only [bdn]; exact hB, hx⟩
            obtain rfl : i = 0 := by omega
            exact ⟨by have := G1.out; omega, fun h => by omega⟩
          case measure => simp [intOf]; omega
        · obtain ⟨j, rfl⟩ : ∃ j, k = j + 1 := ⟨k - 1, by omega⟩
          have hc3 := (Hr.out.below hB hbb j (by have := Hl.out; omega)).1
          have hc4 := (Hr.out.below hB hbb j (by have := Hl.out; omega)).2
          have hpos : decide ((0 : Int) < (j : Int) + 1) = true := by simp
          have e1 : (0 : Int) ≤ (j : Int) + 1 := by omega
          have e2 : (j : Int) + 1 < (m : Int) := by omega
          have e3 : ((j : Int) + 1).toNat = j + 1 := by omega
          have e4 : j < m := by omega
          have e5 : IntKind.i64.wrap (j : Int) = (j : Int) := IntWalk.i64_in _ (by omega)
          clear k0
          by_cases g2 : ltE (eA es (j + 1)) (eB es (j + 1)) (eA es j) (eB es j)
          · have G2 := hid g2
            clear g2
            go_wp2
            go_still_tail 28, (by kernel_rfl)
            go_wp2_with (go_at_call 21; refine (sBefore_yes _ _ _ _ _ G2.out).mono ?_; rintro e w4 ⟨rfl, hb4⟩)
            go_ret
            refine ⟨?_, hB.drew.trans (hb4.mono hB.size)⟩
            rw [HR.out, decide_eq_false (fun h => (h (j + 1) (by have := Hl.out; omega)).2 (by omega) G2.out)]
            rfl
          · have G2 := hid g2
            clear g2
            go_wp2
            go_still_tail 28, (by kernel_rfl)
            go_wp2_with (go_at_call 21; refine (sBefore_no _ _ _ _ _ G2.out).mono ?_; rintro e w4 ⟨rfl, hb4⟩; have hx4 : w4.cell? ⟨w.heap.size, 1, none⟩ = some (.slice (some ⟨b, off, none⟩) m c) := ((bcells hb4).1 _ _ (World.block_lt_of_cell? wr _ hx)).trans hx)
            go_roundw
            case rel =>
              refine ⟨j + 1 + 1, by omega, by go_num, hid fun i hi => ?_, hB.drew.trans (hb4.mono hB.size), hx4⟩
              rcases Nat.lt_or_ge i (j + 1) with h | h
              · exact hE.out i h
              · obtain rfl : i = j + 1 := by omega
                exact ⟨by have := G1.out; omega, fun _ => G2.out⟩
            case measure => simp [intOf]; omega
    · go_wp2
      go_ret
      obtain rfl : k = m := by omega
      refine ⟨?_, hB⟩
      rw [HR.out, decide_eq_true (show InOrder es from fun i hi => hE.out i (by have := Hl.out; omega))]
      rfl

theorem sIs_any (n : Int) (p : Option Addr) (m c : Nat) (es : List (Int × Int)) (w : World) (hm : m ≤ 9223372036854775807) (hlen : es.length = m) (hr : SeesE w p es) :
    Calls Try.prog 10 #[.agg #[.int .i64 n, .slice p m c]] w fun e w' => e = .returned (.bool (decide (IsG n es))) ∧ Below w.heap.size w w' := by
  by_cases h : Ends n es
  · obtain ⟨N, rfl⟩ : ∃ N : Nat, n = N := ⟨_, (Int.toNat_of_nonneg (by have := h.1.1; omega)).symm⟩
    rcases hr with rfl | ⟨b, off, rfl, hr⟩
    · exact absurd h.1.2.2.2 (by have := h.1.1; simp; omega)
    · by_cases hC : Cubic N es
      · refine (sIs_loop N b off m c es w hm hlen hr h hC).mono fun e w' ⟨he, hb⟩ => ⟨?_, hb⟩
        rw [he]
        congr 2
        by_cases h3 : InOrder es
        · rw [decide_eq_true h3, decide_eq_true ⟨h, by simpa using hC, h3⟩]
        · rw [decide_eq_false h3, decide_eq_false (fun e => h3 e.2.2)]
      · refine (sIs_cubic N b off m c es w hm hlen hr h hC).mono fun e w' ⟨he, hb⟩ => ⟨?_, hb⟩
        rw [he, decide_eq_false (fun e => hC (by simpa using e.2.1))]
  · refine (sIs_ends n p m c es w hm hlen hr h).mono fun e w' ⟨he, hb⟩ => ⟨?_, hb⟩
    rw [he, decide_eq_false (fun e => h e.1)]

end Go.Proofs.Ytaafbdpdpndplaa
