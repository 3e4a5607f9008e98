/- Lists that have each number once: the model's test and the program's. -/
import Derived.Test.YtbimllpfbgjajaaSpecC
import Derived.Test.YtbimllpfbgjajaaImplA
import Derived.Test.YtbimllpfbgjajaaOnce
namespace Go.Proofs.Ytbimllpfbgjajaa
open Go.RowKit

theorem infoBool : (Try.prog.info? 4).map (fun i => (i.zero, i.size, i.bytes)) = some (some (.bool false), 1, 1) := by kernel_rfl

set_option maxRecDepth 100000 in
set_option maxHeartbeats 2000000 in
theorem iEach_len (p : Option Addr) (m c : Nat) (n : Int) (w : World) (_hm : m ≤ 1048576) (hl : ¬ (m : Int) = n) :
    Calls Try.prog 74 #[.slice p m c, .int .i64 n] w fun e w' => e = .returned (.bool false) ∧ Below w.heap.size w w' := by
  have h1 : ((m : Int) != n) = true := by simpa using hl
  clear hl
  go_enter Try.func74, Try.ntmps74
  go_wp2
  go_ret
  exact ⟨rfl, Below.refl _ _⟩

set_option maxRecDepth 100000 in
set_option maxHeartbeats 4000000 in
theorem iEach_loop (b off m c : Nat) (xs : List Int) (w : World) (hm1 : 1 ≤ m) (hm : m ≤ 20) (hl : xs.length = m) (hr : ReadsI w b off xs) :
    Calls Try.prog 74 #[.slice (some ⟨b, off, none⟩) m c, .int .i64 m] w fun e w' => e = .returned (.bool (decide (eachF m xs))) ∧ Below w.heap.size w w' := by
  have Hl := hid hl
  have Hr := hid hr
  have h1 : ((m : Int) != (m : Int)) = false := by simp
  clear hl hr
  obtain ⟨r, hR⟩ : ∃ r : Bool, r = decide (eachF m xs) := ⟨_, rfl⟩
  rw [← hR]
  have HR := hid hR
  clear hR
  obtain ⟨i0, hi, hz0, hz1, hz2⟩ := info_parts infoBool
  go_enter Try.func74, Try.ntmps74
  go_wp2_with (at_make; refine wpList_make_full _ rfl _ _ 89 rfl w.heap.size 4 i0 (.bool false) 1 Try.underlying89 hi hz0 hz1 _ _ _ _ m rfl rfl rfl rfl (by rw [hz2]; omega) (by unfold maxLen; omega) (Nat.le_refl _) ?_; intro w1 hown hgrow)
  have Ho := hid (OwnB.made hown)
  have Hb := hid ((Below.refl w.heap.size w).grown hgrow (Nat.le_refl _) (fun k e => by cases e))
  clear hown hgrow hi hz0 hz1 hz2
  go_loopw [16] (fun i wr => ∃ (k : Nat) (ms : List Bool), k ≤ m ∧ i = .int .i64 k ∧ Hid (ms.length = m ∧ (∀ v, v < m → eL ms v = decide ((v : Int) ∈ xs.take k)) ∧ OwnB wr w.heap.size m ms) ∧ Hid ((∀ i, i < k → 0 ≤ eI xs i ∧ eI xs i < m) ∧ (xs.take k).Nodup) ∧ Below w.heap.size w wr) (fun i _ => m - (intOf i).toNat)
  case atStart => exact ⟨0, _, Nat.zero_le _, rfl, hid ⟨List.length_replicate, fun v hv => by rw [eL_lt (by simpa using hv)]; simp, Ho.out⟩, hid ⟨fun i hi => by omega, by simp⟩, Hb.out⟩
  case round =>
    obtain ⟨k, ms, hk, rfl, hC, hD, hB⟩ := hrel
    clear Ho Hb
    by_cases hlt : k < m
    · have hc1 := Hr.out.on hB k (by have := Hl.out; omega)
      obtain ⟨x, hx⟩ : ∃ x, eI xs k = x := ⟨_, rfl⟩
      rw [hx] at hc1
      have HX := hid hx
      clear hx
      by_cases g1 : 0 ≤ x ∧ x < m
      · obtain ⟨X, rfl⟩ : ∃ X : Nat, x = X := ⟨_, (Int.toNat_of_nonneg g1.1).symm⟩
        have hXm : X < m := by omega
        have G1 := hid g1
        have hcm := hC.out.2.2.cell (i := X) (by have := hC.out.1; omega)
        have hfm := hC.out.2.2.free X
        have hgz := hC.out.2.2.lt
        have hXm' : (X : Int) < (m : Int) := by omega
        clear g1
        cases hq : eL ms X with
        | true =>
          have HQ := hid hq
          rw [hq] at hcm
          clear hq
          go_wp2_with (go_at_call 53; refine (iBelow_yes _ _ _ G1.out).mono ?_; rintro e w' ⟨rfl, rfl⟩)
          go_ret
          refine ⟨?_, hB⟩
          have h := hC.out.2.1 X hXm
          rw [HQ.out] at h
          have hmem : eI xs k ∈ xs.take k := by rw [HX.out]; exact of_decide_eq_true h.symm
          rw [HR.out, decide_eq_false (fun e => not_nodup (by have := Hl.out; omega) hmem e.2.2)]
          rfl
        | false =>
          have HQ := hid hq
          rw [hq] at hcm
          clear hq
          go_wp2_with (go_at_call 53; refine (iBelow_yes _ _ _ G1.out).mono ?_; rintro e w' ⟨rfl, rfl⟩)
          go_roundw
          case rel =>
            have h := hC.out.2.1 X hXm
            rw [HQ.out] at h
            have hmem : eI xs k ∉ xs.take k := by rw [HX.out]; exact of_decide_eq_false h.symm
            refine ⟨k + 1, ms.set X true, by omega, by go_num, hid ⟨by rw [List.length_set]; exact hC.out.1, met_step (by have := Hl.out; omega) hC.out.1 HX.out hXm hC.out.2.1, hC.out.2.2.set (by have := hC.out.1; omega) _⟩, hid ⟨fun i hi => ?_, nodup_step (by have := Hl.out; omega) hD.out.2 hmem⟩, hB.setCell (Nat.le_refl _) _⟩
            rcases Nat.lt_or_ge i k with h | h
            · exact hD.out.1 i h
            · obtain rfl : i = k := by omega
              rw [HX.out]; exact G1.out
          case measure => simp [intOf]; omega
      · have G1 := hid g1
        clear g1
        go_wp2_with (go_at_call 53; refine (iBelow_no _ _ _ G1.out).mono ?_; rintro e w' ⟨rfl, rfl⟩)
        go_ret
        refine ⟨?_, hB⟩
        rw [HR.out, decide_eq_false (fun e => by have := e.2.1 k (by have := Hl.out; omega); rw [HX.out] at this; exact G1.out this)]
        rfl
    · go_wp2
      go_ret
      obtain rfl : k = m := by omega
      refine ⟨?_, hB⟩
      rw [HR.out, decide_eq_true (each_all (by rw [Hl.out]) (fun i hi => hD.out.1 i (by have := Hl.out; omega)) (by have h := hD.out.2; rw [← Hl.out] at h; exact h))]
      rfl

theorem iEach_any (p : Option Addr) (m c : Nat) (n : Int) (xs : List Int) (w : World) (hn1 : 1 ≤ n) (hn : n ≤ 20) (hm : m ≤ 1048576) (hl : xs.length = m) (hr : SeesI w p xs) :
    Calls Try.prog 74 #[.slice p m c, .int .i64 n] w fun e w' => e = .returned (.bool (decide (eachF n xs))) ∧ Below w.heap.size w w' := by
  by_cases h : (m : Int) = n
  · subst h
    rcases hr with rfl | ⟨b, off, rfl, hr⟩
    · simp at hl; omega
    · exact iEach_loop b off m c xs w (by omega) (by omega) hl hr
  · refine (iEach_len p m c n w hm h).mono fun e w' ⟨he, hb⟩ => ⟨?_, hb⟩
    rw [he, decide_eq_false (fun e => h (by rw [← hl]; exact e.1))]




theorem each_sees {s : Int} {q : Option Addr} {ps : List Int} {w : World} (hs : 1 ≤ s) (h : eachF s ps) (hr : SeesI w q ps) : ∃ b off, q = some ⟨b, off, none⟩ ∧ ReadsI w b off ps := by
  rcases hr with rfl | h2
  · have := h.1; simp at this; omega
  · exact h2

end Go.Proofs.Ytbimllpfbgjajaa
