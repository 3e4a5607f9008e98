/- The model's order of edges, and its test of graphs. -/
import Derived.Test.YtafiockejagapaaSpecB
namespace Go.Proofs.Ytafiockejagapaa
open Go.RowKit

set_option maxHeartbeats 1000000 in
theorem sBefore_yes (a b c d : Int) (w : World) (h : ltE a b c d) :
    Calls Try.prog 97 #[.agg #[.int .i64 a, .int .i64 b], .agg #[.int .i64 c, .int .i64 d]] w fun e w' => e = .returned (.bool true) ∧ Below w.heap.size w w' := by
  by_cases h1 : a < c
  · clear h
    go_enter Try.func97, Try.ntmps97
    go_wp2
    go_ret
    exact ⟨rfl, by go_grown⟩
  · obtain ⟨rfl, h2⟩ : a = c ∧ b < d := by rcases h with h | h; exact absurd h h1; exact h
    clear h h1
    have h0 : decide (a < a) = false := by simp
    go_enter Try.func97, Try.ntmps97
    go_wp2
    go_ret
    exact ⟨rfl, by go_grown⟩

set_option maxHeartbeats 1000000 in
theorem sBefore_no (a b c d : Int) (w : World) (h : ¬ ltE a b c d) :
    Calls Try.prog 97 #[.agg #[.int .i64 a, .int .i64 b], .agg #[.int .i64 c, .int .i64 d]] w fun e w' => e = .returned (.bool false) ∧ Below w.heap.size w w' := by
  have h1 : decide (a < c) = false := decide_eq_false (fun e => h (.inl e))
  by_cases h2 : a = c
  · subst h2
    have h3 : decide (b < d) = false := decide_eq_false (fun e => h (.inr ⟨rfl, e⟩))
    clear h
    go_enter Try.func97, Try.ntmps97
    go_wp2
    go_ret
    exact ⟨rfl, by go_grown⟩
  · have h3 : (a == c) = false := by simpa using h2
    clear h h2
    go_enter Try.func97, Try.ntmps97
    go_wp2
    go_ret
    exact ⟨rfl, by go_grown⟩

set_option maxRecDepth 100000 in
set_option maxHeartbeats 1000000 in
theorem sIs_ends (n : Int) (p : Option Addr) (m c : Nat) (es : List (Int × Int)) (w : World) (hm : m ≤ 9223372036854775807) (hlen : es.length = m) (hr : SeesE w p es) (h : ¬ Ends n es) :
    Calls Try.prog 51 #[.agg #[.int .i64 n, .slice p m c]] w fun e w' => e = .returned (.bool false) ∧ Below w.heap.size w w' := by
  have Hl := hid hlen
  have Hr := hid hr
  have H := hid h
  clear hlen hr h
  go_enter Try.func51, Try.ntmps51
  go_wp2_with (go_at_call 95; refine (sEnds_any _ _ _ _ es _ hm Hl.out (Hr.out.alloc _)).mono ?_; rw [if_neg H.out]; rintro e w2 ⟨rfl, hb2⟩)
  go_ret
  exact ⟨rfl, bfrom (by go_grown) hb2⟩

set_option maxRecDepth 100000 in
set_option maxHeartbeats 1000000 in
theorem sIs_cubic (N b off m c : Nat) (es : List (Int × Int)) (w : World) (hm : m ≤ 9223372036854775807) (hlen : es.length = m) (hr : ReadsE w b off es) (h : Ends N es) (hC : ¬ Cubic N es) :
    Calls Try.prog 51 #[.agg #[.int .i64 N, .slice (some ⟨b, off, none⟩) m c]] w fun e w' => e = .returned (.bool false) ∧ Below w.heap.size w w' := by
  have Hl := hid hlen
  have Hr := hid hr
  have H := hid h
  have HC := hid hC
  clear hlen hr h hC
  go_enter Try.func51, Try.ntmps51
  go_wp2_with (first | (go_at_call 95; refine (sEnds_any _ _ _ _ es _ hm Hl.out (SeesE.alloc (.inr ⟨b, off, rfl, Hr.out⟩) _)).mono ?_; rw [if_pos H.out]; rintro e w2 ⟨rfl, hb2⟩; obtain ⟨hc2, hf2⟩ := bcells hb2; have hz := hb2.size; simp at hz) | (go_at_call 96; refine (sCubic_any _ _ _ _ _ es _ H.out Hl.out ((Hr.out.on ((Below.refl _ _).alloc (Nat.le_refl _) _)).on hb2)).mono ?_; rw [decide_eq_false HC.out]; rintro e w3 ⟨rfl, hb3⟩))
  go_ret
  exact ⟨rfl, bfrom (bfrom (by go_grown) hb2) hb3⟩

set_option maxRecDepth 100000 in
set_option maxHeartbeats 2000000 in
theorem sIs_loop (N b off m c : Nat) (es : List (Int × Int)) (w : World) (hm : m ≤ 9223372036854775807) (hlen : es.length = m) (hr : ReadsE w b off es) (h : Ends N es) (hC : Cubic N es) :
    Calls Try.prog 51 #[.agg #[.int .i64 N, .slice (some ⟨b, off, none⟩) m c]] w fun e w' => e = .returned (.bool (decide (InOrder es))) ∧ Below w.heap.size w w' := by
  have Hl := hid hlen
  have Hr := hid hr
  have H := hid h
  have HC := hid hC
  clear hlen hr h hC
  obtain ⟨r, hR⟩ : ∃ r : Bool, r = decide (InOrder es) := ⟨_, rfl⟩
  rw [← hR]
  have HR := hid hR
  clear hR
  go_enter Try.func51, Try.ntmps51
  go_wp2_with (first | (go_at_call 95; refine (sEnds_any _ _ _ _ es _ hm Hl.out (SeesE.alloc (.inr ⟨b, off, rfl, Hr.out⟩) _)).mono ?_; rw [if_pos H.out]; rintro e w2 ⟨rfl, hb2⟩; obtain ⟨hc2, hf2⟩ := bcells hb2; have hz := hb2.size; simp at hz) | (go_at_call 96; refine (sCubic_any _ _ _ _ _ es _ H.out Hl.out ((Hr.out.on ((Below.refl _ _).alloc (Nat.le_refl _) _)).on hb2)).mono ?_; rw [decide_eq_true HC.out]; rintro e w3 ⟨rfl, hb3⟩))
  have hbx := hid (bfrom (w := w) (bfrom (by go_grown) hb2) hb3)
  have hcx : w3.cell? ⟨w.heap.size, 1, none⟩ = some (.slice (some ⟨b, off, none⟩) m c) := by
    rw [(bcells hb3).1 _ _ (by omega), hc2 _ _ (by simp)]
    simp
  have hzx : w.heap.size < w3.heap.size := by have := hb3.size; omega
  clear hb2 hb3 hc2 hf2 hz
  go_loopw [3] (fun i wr => ∃ k : Nat, k ≤ m ∧ i = .int .i64 k ∧ Hid (∀ i, i < k → okAt es i) ∧ Below w.heap.size w wr ∧ wr.cell? ⟨w.heap.size, 1, none⟩ = some (.slice (some ⟨b, off, none⟩) m c)) (fun i _ => m - (intOf i).toNat)
  case atStart => exact ⟨0, Nat.zero_le _, rfl, hid (fun i hi => by omega), hbx.out, hcx⟩
  case round =>
    obtain ⟨k, hk, rfl, hE, hB, hx⟩ := hrel
    clear hbx hcx hzx
    by_cases hlt : k < m
    · have hbb : b < w.heap.size := reads_lt Hr.out (by have := Hl.out; omega)
      have hc1 := (Hr.out.below hB hbb k (by have := Hl.out; omega)).1
      have hc2 := (Hr.out.below hB hbb k (by have := Hl.out; omega)).2
      by_cases g1 : eB es k < eA es k
      · have G1 := hid g1
        go_wp2
        go_quiet (fail)
        go_wp2
        go_ret
        refine ⟨?_, by simp only [bdn]; exact hB⟩
        rw [HR.out, decide_eq_false (fun h => by have := (h k (by have := Hl.out; omega)).1; have := G1.out; omega)]
        rfl
      · have g1' : decide (eB es k < eA es k) = false := by simpa using g1
        have G1 := hid g1
        clear g1
        by_cases k0 : k = 0
        · subst k0
          rw [Nat.zero_mul, Nat.add_zero] at hc1 hc2
          go_wp2
          go_quiet (fail)
          go_wp2
          go_roundw
          case rel =>
            refine ⟨1, by omega, rfl, hid fun i hi => ?_, by simp only [bdn]; exact hB, hx⟩
            obtain rfl : i = 0 := by omega
            exact ⟨by have := G1.out; omega, fun h => by omega⟩
          case measure => simp [intOf]; omega
        · obtain ⟨j, rfl⟩ : ∃ j, k = j + 1 := ⟨k - 1, by omega⟩
          have hc3 := (Hr.out.below hB hbb j (by have := Hl.out; omega)).1
          have hc4 := (Hr.out.below hB hbb j (by have := Hl.out; omega)).2
          have hpos : decide ((0 : Int) < (j : Int) + 1) = true := by simp
          have e1 : (0 : Int) ≤ (j : Int) + 1 := by omega
          have e2 : (j : Int) + 1 < (m : Int) := by omega
          have e3 : ((j : Int) + 1).toNat = j + 1 := by omega
          have e4 : j < m := by omega
          have e5 : IntKind.i64.wrap (j : Int) = (j : Int) := IntWalk.i64_in _ (by omega)
          clear k0
          by_cases g2 : ltE (eA es (j + 1)) (eB es (j + 1)) (eA es j) (eB es j)
          · have G2 := hid g2
            clear g2
            go_wp2
            go_still_tail 28, (by kernel_rfl)
            go_wp2_with (go_at_call 97; refine (sBefore_yes _ _ _ _ _ G2.out).mono ?_; rintro e w4 ⟨rfl, hb4⟩)
            go_ret
            refine ⟨?_, hB.drew.trans (hb4.mono hB.size)⟩
            rw [HR.out, decide_eq_false (fun h => (h (j + 1) (by have := Hl.out; omega)).2 (by omega) G2.out)]
            rfl
          · have G2 := hid g2
            clear g2
            go_wp2
            go_still_tail 28, (by kernel_rfl)
            go_wp2_with (go_at_call 97; refine (sBefore_no _ _ _ _ _ G2.out).mono ?_; rintro e w4 ⟨rfl, hb4⟩; have hx4 : w4.cell? ⟨w.heap.size, 1, none⟩ = some (.slice (some ⟨b, off, none⟩) m c) := ((bcells hb4).1 _ _ (World.block_lt_of_cell? wr _ hx)).trans hx)
            go_roundw
            case rel =>
              refine ⟨j + 1 + 1, by omega, by go_num, hid fun i hi => ?_, hB.drew.trans (hb4.mono hB.size), hx4⟩
              rcases Nat.lt_or_ge i (j + 1) with h | h
              · exact hE.out i h
              · obtain rfl : i = j + 1 := by omega
                exact ⟨by have := G1.out; omega, fun _ => G2.out⟩
            case measure => simp [intOf]; omega
    · go_wp2
      go_ret
      obtain rfl : k = m := by omega
      refine ⟨?_, hB⟩
      rw [HR.out, decide_eq_true (show InOrder es from fun i hi => hE.out i (by have := Hl.out; omega))]
      rfl

theorem sIs_any (n : Int) (p : Option Addr) (m c : Nat) (es : List (Int × Int)) (w : World) (hm : m ≤ 9223372036854775807) (hlen : es.length = m) (hr : SeesE w p es) :
    Calls Try.prog 51 #[.agg #[.int .i64 n, .slice p m c]] w fun e w' => e = .returned (.bool (decide (IsG n es))) ∧ Below w.heap.size w w' := by
  by_cases h : Ends n es
  · obtain ⟨N, rfl⟩ : ∃ N : Nat, n = N := ⟨_, (Int.toNat_of_nonneg (by have := h.1.1; omega)).symm⟩
    rcases hr with rfl | ⟨b, off, rfl, hr⟩
    · exact absurd h.1.2.2.2 (by have := h.1.1; simp; omega)
    · by_cases hC : Cubic N es
      · refine (sIs_loop N b off m c es w hm hlen hr h hC).mono fun e w' ⟨he, hb⟩ => ⟨?_, hb⟩
        rw [he]
        congr 2
        by_cases h3 : InOrder es
        · rw [decide_eq_true h3, decide_eq_true ⟨h, by simpa using hC, h3⟩]
        · rw [decide_eq_false h3, decide_eq_false (fun e => h3 e.2.2)]
      · refine (sIs_cubic N b off m c es w hm hlen hr h hC).mono fun e w' ⟨he, hb⟩ => ⟨?_, hb⟩
        rw [he, decide_eq_false (fun e => hC (by simpa using e.2.1))]
  · refine (sIs_ends n p m c es w hm hlen hr h).mono fun e w' ⟨he, hb⟩ => ⟨?_, hb⟩
    rw [he, decide_eq_false (fun e => h e.1)]

end Go.Proofs.Ytafiockejagapaa
