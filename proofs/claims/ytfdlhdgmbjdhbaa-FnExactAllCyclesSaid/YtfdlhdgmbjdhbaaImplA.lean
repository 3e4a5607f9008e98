/- The program's tests on sizes, ends and counts. -/
import Derived.Test.YtfdlhdgmbjdhbaaSpecC
import Derived.Deep.RegionWith
namespace Go.Proofs.Ytfdlhdgmbjdhbaa
open Go.RowKit

set_option maxHeartbeats 400000 in
theorem iBelow_yes (x n : Int) (w : World) (h : 0 ≤ x ∧ x < n) :
    Calls Try.prog 71 #[.int .i64 x, .int .i64 n] w fun e w' => e = .returned (.bool true) ∧ w = w' := by
  obtain ⟨h1, h2⟩ := h
  go_enter Try.func71, Try.ntmps71
  go_wp2
  go_ret
  exact ⟨rfl, rfl⟩

set_option maxHeartbeats 400000 in
theorem iBelow_no (x n : Int) (w : World) (h : ¬ (0 ≤ x ∧ x < n)) :
    Calls Try.prog 71 #[.int .i64 x, .int .i64 n] w fun e w' => e = .returned (.bool false) ∧ w = w' := by
  by_cases h1 : 0 ≤ x
  · have h2 : decide (x < n) = false := by simp; omega
    clear h
    go_enter Try.func71, Try.ntmps71
    go_wp2
    go_ret
    exact ⟨rfl, rfl⟩
  · have h2 : decide (0 ≤ x) = false := by simp; omega
    clear h h1
    go_enter Try.func71, Try.ntmps71
    go_wp2
    go_ret
    exact ⟨rfl, rfl⟩

set_option maxRecDepth 100000 in
set_option maxHeartbeats 1000000 in
theorem iEdges_size (n : Int) (p : Option Addr) (m c : Nat) (w : World) (h : n < 2 ∨ 20 < n) :
    Calls Try.prog 96 #[.int .i64 n, .slice p m c] w fun e w' => e = .returned (.bool false) ∧ Below w.heap.size w w' := by
  by_cases h1 : n < 2
  · clear h
    go_enter Try.func96, Try.ntmps96
    go_wp2
    go_ret
    exact ⟨rfl, Below.refl _ _⟩
  · have h2 : decide (n < 2) = false := by simpa using h1
    have h3 : 20 < n := by omega
    clear h h1
    go_enter Try.func96, Try.ntmps96
    go_wp2
    go_ret
    exact ⟨rfl, Below.refl _ _⟩

set_option maxRecDepth 100000 in
set_option maxHeartbeats 1000000 in
theorem iEdges_odd (n : Int) (p : Option Addr) (m c : Nat) (w : World) (h1 : 2 ≤ n) (h2 : n ≤ 20) (h3 : n % 2 = 1) :
    Calls Try.prog 96 #[.int .i64 n, .slice p m c] w fun e w' => e = .returned (.bool false) ∧ Below w.heap.size w w' := by
  have h4 : (n % 2 != 0) = true := by rw [h3]; rfl
  have h5 : decide (n < 2) = false := by simp; omega
  have h6 : decide (20 < n) = false := by simp; omega
  clear h3
  go_enter Try.func96, Try.ntmps96
  go_wp2
  go_ret
  exact ⟨rfl, Below.refl _ _⟩

set_option maxRecDepth 100000 in
set_option maxHeartbeats 1000000 in
theorem iEdges_len (n : Int) (p : Option Addr) (m c : Nat) (w : World) (h1 : 2 ≤ n) (h2 : n ≤ 20) (h3 : n % 2 = 0) (_hm : m ≤ 9223372036854775807) (hl : ¬ (m : Int) = 3 * n / 2) :
    Calls Try.prog 96 #[.int .i64 n, .slice p m c] w fun e w' => e = .returned (.bool false) ∧ Below w.heap.size w w' := by
  have h4 : (n % 2 != 0) = false := by rw [h3]; rfl
  have h5 : decide (n < 2) = false := by simp; omega
  have h6 : decide (20 < n) = false := by simp; omega
  have h7 : ((m : Int) != 3 * n / 2) = true := by simpa using hl
  clear h3 hl
  go_enter Try.func96, Try.ntmps96
  go_wp2
  go_ret
  exact ⟨rfl, Below.refl _ _⟩

set_option maxRecDepth 100000 in
set_option maxHeartbeats 2000000 in
theorem iEdges_loop (n : Int) (b off m c : Nat) (es : List (Int × Int)) (w : World) (h1 : 2 ≤ n) (h2 : n ≤ 20) (h3 : n % 2 = 0) (hm : m ≤ 30) (hl : (m : Int) = 3 * n / 2) (hlen : es.length = m) (hr : ReadsE w b off es) :
    Calls Try.prog 96 #[.int .i64 n, .slice (some ⟨b, off, none⟩) m c] w fun e w' => e = .returned (.bool (decide (∀ i, i < m → okEdge n (eA es i) (eB es i)))) ∧ Below w.heap.size w w' := by
  have h4 : (n % 2 != 0) = false := by rw [h3]; rfl
  have h5 : ((m : Int) != 3 * n / 2) = false := by simpa using hl
  have h6 : decide (n < 2) = false := by simp; omega
  have h7 : decide (20 < n) = false := by simp; omega
  have Hl := hid hlen
  have Hr := hid hr
  clear h3 hl hlen hr
  obtain ⟨r, hR⟩ : ∃ r : Bool, r = decide (∀ i, i < m → okEdge n (eA es i) (eB es i)) := ⟨_, rfl⟩
  rw [← hR]
  have HR := hid hR
  clear hR
  go_enter Try.func96, Try.ntmps96
  go_wp2
  go_loopw [28] (fun i wr => ∃ k : Nat, k ≤ m ∧ i = .int .i64 k ∧ Hid (∀ i, i < k → okEdge n (eA es i) (eB es i)) ∧ Below w.heap.size w wr) (fun i _ => m - (intOf i).toNat)
  case atStart => exact ⟨0, Nat.zero_le _, rfl, hid (fun i hi => by omega), Below.refl _ _⟩
  case round =>
    obtain ⟨k, hk, rfl, hE, hB⟩ := hrel
    clear h4 h5
    by_cases hlt : k < m
    · have hbb : b < w.heap.size := reads_lt Hr.out (by have := Hl.out; omega)
      have hc1 := (Hr.out.below hB hbb k (by have := Hl.out; omega)).1
      have hc2 := (Hr.out.below hB hbb k (by have := Hl.out; omega)).2
      obtain ⟨x, hx⟩ : ∃ x, eA es k = x := ⟨_, rfl⟩
      obtain ⟨y, hy⟩ : ∃ y, eB es k = y := ⟨_, rfl⟩
      rw [hx] at hc1
      rw [hy] at hc2
      have HX := hid hx
      have HY := hid hy
      have hsz := hB.size
      clear hx hy
      by_cases g1 : 0 ≤ x ∧ x < n
      · have G1 := hid g1
        clear g1
        by_cases g2 : 0 ≤ y ∧ y < n
        · have G2 := hid g2
          clear g2
          by_cases g3 : x = y
          · have g3' : (x == y) = true := by simpa using g3
            have G3 := hid g3
            clear g3
            go_wp2_with (first | (go_at_call_of 71 x; refine (iBelow_yes _ _ _ G1.out).mono ?_; rintro e w' ⟨rfl, rfl⟩) | (go_at_call_of 71 y; refine (iBelow_yes _ _ _ G2.out).mono ?_; rintro e w' ⟨rfl, rfl⟩))
            go_ret
            refine ⟨?_, hB.alloc hsz _⟩
            rw [HR.out, decide_eq_false (fun h => by have := h k hlt; rw [HX.out, HY.out] at this; exact this.2.2.2.2 G3.out)]
            rfl
          · have g3' : (x == y) = false := by simpa using g3
            have G3 := hid g3
            clear g3
            go_wp2_with (first | (go_at_call_of 71 x; refine (iBelow_yes _ _ _ G1.out).mono ?_; rintro e w' ⟨rfl, rfl⟩) | (go_at_call_of 71 y; refine (iBelow_yes _ _ _ G2.out).mono ?_; rintro e w' ⟨rfl, rfl⟩))
            go_roundw
            case rel =>
              refine ⟨k + 1, by omega, by go_num, hid (fun i hi => ?_), hB.alloc hsz _⟩
              rcases Nat.lt_or_ge i k with h | h
              · exact hE.out i h
              · obtain rfl : i = k := by omega
                rw [HX.out, HY.out]
                exact ⟨G1.out.1, G1.out.2, G2.out.1, G2.out.2, G3.out⟩
            case measure => simp [intOf]; omega
        · have G2 := hid g2
          clear g2
          go_wp2_with (first | (go_at_call_of 71 x; refine (iBelow_yes _ _ _ G1.out).mono ?_; rintro e w' ⟨rfl, rfl⟩) | (go_at_call_of 71 y; refine (iBelow_no _ _ _ G2.out).mono ?_; rintro e w' ⟨rfl, rfl⟩))
          go_ret
          refine ⟨?_, hB.alloc hsz _⟩
          rw [HR.out, decide_eq_false (fun h => by have := h k hlt; rw [HX.out, HY.out] at this; exact G2.out ⟨this.2.2.1, this.2.2.2.1⟩)]
          rfl
      · have G1 := hid g1
        clear g1
        go_wp2_with (go_at_call_of 71 x; refine (iBelow_no _ _ _ G1.out).mono ?_; rintro e w' ⟨rfl, rfl⟩)
        go_ret
        refine ⟨?_, hB.alloc hsz _⟩
        rw [HR.out, decide_eq_false (fun h => by have := h k hlt; rw [HX.out, HY.out] at this; exact G1.out ⟨this.1, this.2.1⟩)]
        rfl
    · go_wp2
      go_ret
      obtain rfl : k = m := by omega
      refine ⟨?_, hB⟩
      rw [HR.out, decide_eq_true hE.out]
      rfl

theorem iEdges_any (n : Int) (p : Option Addr) (m c : Nat) (es : List (Int × Int)) (w : World) (hm : m ≤ 9223372036854775807) (hlen : es.length = m) (hr : SeesE w p es) :
    Calls Try.prog 96 #[.int .i64 n, .slice p m c] w fun e w' => e = .returned (.bool (decide (Ends n es))) ∧ Below w.heap.size w w' := by
  by_cases h0 : 2 ≤ n ∧ n ≤ 20
  · obtain ⟨h1, h2⟩ := h0
    by_cases h3 : n % 2 = 0
    · by_cases hl : (m : Int) = 3 * n / 2
      · rcases hr with rfl | ⟨b, off, rfl, hr⟩
        · simp at hlen; omega
        · refine (iEdges_loop n b off m c es w h1 h2 h3 (by omega) hl hlen hr).mono fun e w' ⟨he, hb⟩ => ⟨?_, hb⟩
          rw [he]
          subst hlen
          by_cases h : ∀ i, i < es.length → okEdge n (eA es i) (eB es i)
          · rw [decide_eq_true h, decide_eq_true (show Ends n es from ⟨⟨h1, h2, h3, hl⟩, h⟩)]
          · rw [decide_eq_false h, decide_eq_false (fun e => h e.2)]
      · refine (iEdges_len n p m c w h1 h2 h3 hm hl).mono fun e w' ⟨he, hb⟩ => ⟨?_, hb⟩
        rw [he, decide_eq_false (fun e => hl (by rw [← hlen]; exact e.1.2.2.2))]
    · refine (iEdges_odd n p m c w h1 h2 (by omega)).mono fun e w' ⟨he, hb⟩ => ⟨?_, hb⟩
      rw [he, decide_eq_false (fun e => h3 e.1.2.2.1)]
  · refine (iEdges_size n p m c w (by omega)).mono fun e w' ⟨he, hb⟩ => ⟨?_, hb⟩
    rw [he, decide_eq_false (fun e => h0 ⟨e.1.1, e.1.2.1⟩)]

end Go.Proofs.Ytfdlhdgmbjdhbaa
