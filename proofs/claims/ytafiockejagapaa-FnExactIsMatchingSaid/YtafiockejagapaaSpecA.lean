/- The model's tests on graphs: ranges, sizes and ends. -/
import Derived.Test.YtafiockejagapaaLawsB
namespace Go.Proofs.Ytafiockejagapaa
open Go.RowKit

theorem quiet_same {P : Program} {f : FuncId} {args : Array Value} {w : World} {n : Nat} {v : Value}
    (h : Calls P f args (w.drewN n) fun e w' => e = .returned v ∧ w.drewN n = w') : Calls P f args (w.drewN n) fun e w'' => e = .returned v ∧ ∃ m, w'' = w.drewN m :=
  Calls.quiet_of_same (h.mono fun _ _ ⟨a, b⟩ => ⟨a, b.symm⟩)

set_option maxHeartbeats 400000 in
theorem sIn_yes (x lo hi : Int) (w : World) (h : lo ≤ x ∧ x ≤ hi) :
    Calls Try.prog 84 #[.int .i64 x, .int .i64 lo, .int .i64 hi] w fun e w' => e = .returned (.bool true) ∧ w = w' := by
  obtain ⟨h1, h2⟩ := h
  go_enter Try.func84, Try.ntmps84
  go_wp2
  go_ret
  exact ⟨rfl, rfl⟩

set_option maxHeartbeats 400000 in
theorem sIn_no (x lo hi : Int) (w : World) (h : x < lo ∨ hi < x) :
    Calls Try.prog 84 #[.int .i64 x, .int .i64 lo, .int .i64 hi] w fun e w' => e = .returned (.bool false) ∧ w = w' := by
  by_cases h1 : lo ≤ x
  · have h2 : decide (x ≤ hi) = false := by simp; omega
    clear h
    go_enter Try.func84, Try.ntmps84
    go_wp2
    go_ret
    exact ⟨rfl, rfl⟩
  · have h2 : x < lo := by omega
    clear h h1
    go_enter Try.func84, Try.ntmps84
    go_wp2
    go_ret
    exact ⟨rfl, rfl⟩

set_option maxRecDepth 100000 in
set_option maxHeartbeats 1000000 in
theorem sEnds_size (n : Int) (p : Option Addr) (m c : Nat) (w : World) (h : n < 2 ∨ 20 < n) :
    Calls Try.prog 95 #[.int .i64 n, .slice p m c] w fun e w' => e = .returned (.int .i64 2) ∧ Below w.heap.size w w' := by
  have H := hid h
  clear h
  go_enter Try.func95, Try.ntmps95
  go_wp2_with (go_at_call 84; refine (sIn_no _ _ _ _ H.out).mono ?_; rintro e w' ⟨rfl, rfl⟩)
  go_ret
  exact ⟨rfl, Below.refl _ _⟩

set_option maxRecDepth 100000 in
set_option maxHeartbeats 1000000 in
theorem sEnds_odd (n : Int) (p : Option Addr) (m c : Nat) (w : World) (h1 : 2 ≤ n) (h2 : n ≤ 20) (h3 : n % 2 = 1) :
    Calls Try.prog 95 #[.int .i64 n, .slice p m c] w fun e w' => e = .returned (.int .i64 2) ∧ Below w.heap.size w w' := by
  have h4 : (n % 2 != 0) = true := by rw [h3]; rfl
  clear h3
  go_enter Try.func95, Try.ntmps95
  go_wp2_with (go_at_call 84; refine (sIn_yes _ _ _ _ ⟨h1, h2⟩).mono ?_; rintro e w' ⟨rfl, rfl⟩)
  go_ret
  exact ⟨rfl, Below.refl _ _⟩

set_option maxRecDepth 100000 in
set_option maxHeartbeats 1000000 in
theorem sEnds_len (n : Int) (p : Option Addr) (m c : Nat) (w : World) (h1 : 2 ≤ n) (h2 : n ≤ 20) (h3 : n % 2 = 0) (_hm : m ≤ 9223372036854775807) (hl : ¬ (m : Int) = 3 * n / 2) :
    Calls Try.prog 95 #[.int .i64 n, .slice p m c] w fun e w' => e = .returned (.int .i64 2) ∧ Below w.heap.size w w' := by
  have h4 : (n % 2 != 0) = false := by rw [h3]; rfl
  have h5 : ((m : Int) != 3 * n / 2) = true := by simpa using hl
  clear h3 hl
  go_enter Try.func95, Try.ntmps95
  go_wp2_with (go_at_call 84; refine (sIn_yes _ _ _ _ ⟨h1, h2⟩).mono ?_; rintro e w' ⟨rfl, rfl⟩)
  go_ret
  exact ⟨rfl, Below.refl _ _⟩


set_option maxRecDepth 100000 in
set_option maxHeartbeats 2000000 in
theorem sEnds_loop (n : Int) (b off m c : Nat) (es : List (Int × Int)) (w : World) (h1 : 2 ≤ n) (h2 : n ≤ 20) (h3 : n % 2 = 0) (hm : m ≤ 30) (hl : (m : Int) = 3 * n / 2) (hlen : es.length = m) (hr : ReadsE w b off es) :
    Calls Try.prog 95 #[.int .i64 n, .slice (some ⟨b, off, none⟩) m c] w fun e w' => e = .returned (.int .i64 (if ∀ i, i < m → okEdge n (eA es i) (eB es i) then 0 else 2)) ∧ Below w.heap.size w w' := by
  have h4 : (n % 2 != 0) = false := by rw [h3]; rfl
  have h5 : ((m : Int) != 3 * n / 2) = false := by simpa using hl
  have Hl := hid hlen
  have Hr := hid hr
  clear h3 hl hlen hr
  obtain ⟨r, hR⟩ : ∃ r : Int, r = (if ∀ i, i < m → okEdge n (eA es i) (eB es i) then 0 else 2) := ⟨_, rfl⟩
  rw [← hR]
  have HR := hid hR
  clear hR
  go_enter Try.func95, Try.ntmps95
  go_wp2_with (go_at_call 84; refine (sIn_yes _ _ _ _ ⟨h1, h2⟩).mono ?_; rintro e w' ⟨rfl, rfl⟩)
  go_loopw [5] (fun i wr => ∃ k : Nat, k ≤ m ∧ i = .int .i64 k ∧ Hid (∀ i, i < k → okEdge n (eA es i) (eB es i)) ∧ Below w.heap.size w wr) (fun i _ => m - (intOf i).toNat)
  case atStart => exact ⟨0, Nat.zero_le _, rfl, hid (fun i hi => by omega), Below.refl _ _⟩
  case round =>
    obtain ⟨k, hk, rfl, hE, hB⟩ := hrel
    clear h4 h5
    by_cases hlt : k < m
    · have hbb : b < w.heap.size := reads_lt Hr.out (by have := Hl.out; omega)
      have hc1 := (Hr.out.below hB hbb k (by have := Hl.out; omega)).1
      have hc2 := (Hr.out.below hB hbb k (by have := Hl.out; omega)).2
      obtain ⟨x, hx⟩ : ∃ x, eA es k = x := ⟨_, rfl⟩
      obtain ⟨y, hy⟩ : ∃ y, eB es k = y := ⟨_, rfl⟩
      rw [hx] at hc1
      rw [hy] at hc2
      have HX := hid hx
      have HY := hid hy
      clear hx hy
      by_cases g1 : 0 ≤ x ∧ x ≤ n - 1
      · have G1 := hid g1
        clear g1
        by_cases g2 : 0 ≤ y ∧ y ≤ n - 1
        · have G2 := hid g2
          clear g2
          by_cases g3 : x = y
          · have g3' : (x == y) = true := by simpa using g3
            have G3 := hid g3
            clear g3
            go_wp2
            go_quiet ((go_at_call 84; first | exact quiet_same (sIn_yes _ _ _ _ G1.out) | exact quiet_same (sIn_yes _ _ _ _ G2.out)))
            go_wp2
            go_ret
            refine ⟨?_, by simp only [bdn]; exact hB⟩
            rw [HR.out, if_neg (fun h => by have := h k hlt; rw [HX.out, HY.out] at this; exact this.2.2.2.2 G3.out)]
            rfl
          · have g3' : (x == y) = false := by simpa using g3
            have G3 := hid g3
            clear g3
            go_wp2
            go_quiet ((go_at_call 84; first | exact quiet_same (sIn_yes _ _ _ _ G1.out) | exact quiet_same (sIn_yes _ _ _ _ G2.out)))
            go_wp2
            go_roundw
            case rel =>
              refine ⟨k + 1, by omega, by go_num, hid (fun i hi => ?_), by simp only [bdn]; exact hB⟩
              rcases Nat.lt_or_ge i k with h | h
              · exact hE.out i h
              · obtain rfl : i = k := by omega
                rw [HX.out, HY.out]
                have := G1.out
                have := G2.out
                exact ⟨by omega, by omega, by omega, by omega, G3.out⟩
            case measure => simp [intOf]; omega
        · have g2' : y < 0 ∨ n - 1 < y := by omega
          have G2 := hid g2'
          clear g2 g2'
          go_wp2
          go_quiet ((go_at_call 84; first | exact quiet_same (sIn_yes _ _ _ _ G1.out) | exact quiet_same (sIn_no _ _ _ _ G2.out)))
          go_wp2
          go_ret
          refine ⟨?_, by simp only [bdn]; exact hB⟩
          rw [HR.out, if_neg (fun h => by have := h k hlt; rw [HX.out, HY.out] at this; have := this.2.2; have := G2.out; omega)]
          rfl
      · have g1' : x < 0 ∨ n - 1 < x := by omega
        have G1 := hid g1'
        clear g1 g1'
        go_wp2
        go_quiet ((go_at_call 84; exact quiet_same (sIn_no _ _ _ _ G1.out)))
        go_wp2
        go_ret
        refine ⟨?_, by simp only [bdn]; exact hB⟩
        rw [HR.out, if_neg (fun h => by have := h k hlt; rw [HX.out, HY.out] at this; have h6 := this.1; have h7 := this.2.1; have := G1.out; omega)]
        rfl
    · go_wp2
      go_ret
      obtain rfl : k = m := by omega
      refine ⟨?_, hB⟩
      rw [HR.out, if_pos hE.out]
      rfl

theorem sEnds_any (n : Int) (p : Option Addr) (m c : Nat) (es : List (Int × Int)) (w : World) (hm : m ≤ 9223372036854775807) (hlen : es.length = m) (hr : SeesE w p es) :
    Calls Try.prog 95 #[.int .i64 n, .slice p m c] w fun e w' => e = .returned (.int .i64 (if Ends n es then 0 else 2)) ∧ Below w.heap.size w w' := by
  by_cases h0 : 2 ≤ n ∧ n ≤ 20
  · obtain ⟨h1, h2⟩ := h0
    by_cases h3 : n % 2 = 0
    · by_cases hl : (m : Int) = 3 * n / 2
      · rcases hr with rfl | ⟨b, off, rfl, hr⟩
        · simp at hlen; omega
        · refine (sEnds_loop n b off m c es w h1 h2 h3 (by omega) hl hlen hr).mono fun e w' ⟨he, hb⟩ => ⟨?_, hb⟩
          rw [he]
          subst hlen
          by_cases h : ∀ i, i < es.length → okEdge n (eA es i) (eB es i)
          · rw [if_pos h, if_pos ⟨⟨h1, h2, h3, hl⟩, h⟩]
          · rw [if_neg h, if_neg (fun e => h e.2)]
      · refine (sEnds_len n p m c w h1 h2 h3 hm hl).mono fun e w' ⟨he, hb⟩ => ⟨?_, hb⟩
        rw [he, if_neg (fun e => hl (by rw [← hlen]; exact e.1.2.2.2))]
    · refine (sEnds_odd n p m c w h1 h2 (by omega)).mono fun e w' ⟨he, hb⟩ => ⟨?_, hb⟩
      rw [he, if_neg (fun e => h3 e.1.2.2.1)]
  · refine (sEnds_size n p m c w (by omega)).mono fun e w' ⟨he, hb⟩ => ⟨?_, hb⟩
    rw [he, if_neg (fun e => h0 ⟨e.1.1, e.1.2.1⟩)]

end Go.Proofs.Ytafiockejagapaa
