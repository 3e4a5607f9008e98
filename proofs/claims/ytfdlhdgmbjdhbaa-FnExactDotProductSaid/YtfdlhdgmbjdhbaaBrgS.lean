/- Edges and vertices of a graph in the model of chapter 6: whether they are there. -/
import Derived.Test.YtfdlhdgmbjdhbaaSpecD
namespace Go.Proofs.Ytfdlhdgmbjdhbaa
open Go.RowKit

def edgsCode (s : Int) (es : List (Int × Int)) (xs : List Int) : Int := if IsG s es then (if ∀ i, i < xs.length → 0 ≤ eI xs i ∧ eI xs i < (es.length : Int) then 0 else 2) else 1

set_option maxRecDepth 100000 in
set_option maxHeartbeats 1000000 in
theorem sEdg_none (s : Int) (p q : Option Addr) (n c m d : Nat) (es : List (Int × Int)) (w : World) (hm : n ≤ 1048576) (hlen : es.length = n) (hr : SeesE w p es) (h : ¬ IsG s es) :
    Calls Try.prog 26 #[.agg #[.int .i64 s, .slice p n c], .slice q m d] w fun e w' => e = .returned (.int .i64 1) ∧ Below w.heap.size w w' := by
  have Hl := hid hlen
  have Hr := hid hr
  have H := hid h
  clear hlen hr h
  go_enter Try.func26, Try.ntmps26
  go_wp2_with (go_at_call 25; refine (sIs_any _ _ _ _ es _ (by omega) Hl.out (Hr.out.alloc _)).mono ?_; rw [decide_eq_false H.out]; rintro e w2 ⟨rfl, hb2⟩)
  go_ret
  exact ⟨rfl, bfrom (by go_grown) hb2⟩

set_option maxRecDepth 100000 in
set_option maxHeartbeats 2000000 in
theorem sEdg_loop (s : Int) (p : Option Addr) (n c b off m d : Nat) (es : List (Int × Int)) (xs : List Int) (w : World) (hm : n ≤ 1048576) (hlen : es.length = n) (hr : SeesE w p es) (h : IsG s es)
    (hx : xs.length = m) (hm2 : m ≤ 9223372036854775807) (hrx : ReadsI w b off xs) :
    Calls Try.prog 26 #[.agg #[.int .i64 s, .slice p n c], .slice (some ⟨b, off, none⟩) m d] w fun e w' => e = .returned (.int .i64 (if ∀ i, i < m → 0 ≤ eI xs i ∧ eI xs i < (n : Int) then 0 else 2)) ∧ Below w.heap.size w w' := by
  have s1 : 1 ≤ n := by have := h.1.1.1; have := h.1.1.2.2.2; omega
  have s2 : n ≤ 30 := by have := isG_len h; omega
  have Hl := hid hlen
  have Hr := hid hr
  have H := hid h
  have Hx := hid hx
  have Hrx := hid hrx
  clear hlen hr h hx hrx
  obtain ⟨r, hR⟩ : ∃ r : Int, r = (if ∀ i, i < m → 0 ≤ eI xs i ∧ eI xs i < n then 0 else 2) := ⟨_, rfl⟩
  rw [← hR]
  have HR := hid hR
  clear hR
  go_enter Try.func26, Try.ntmps26
  go_wp2_with (go_at_call 25; refine (sIs_any _ _ _ _ es _ (by omega) Hl.out (Hr.out.alloc _)).mono ?_; rw [decide_eq_true H.out]; rintro e w2 ⟨rfl, hb2⟩)
  have hbx := hid (bfrom (w := w) (by go_grown) hb2)
  have hcx : w2.cell? ⟨w.heap.size, 1, none⟩ = some (.slice p n c) := by
    rw [(bcells hb2).1 _ _ (by simp)]
    simp
  clear hb2
  go_loopw [5] (fun i wr => ∃ k : Nat, k ≤ m ∧ i = .int .i64 k ∧ Hid (∀ i, i < k → 0 ≤ eI xs i ∧ eI xs i < n) ∧ Below w.heap.size w wr ∧ wr.cell? ⟨w.heap.size, 1, none⟩ = some (.slice p n c)) (fun i _ => m - (intOf i).toNat)
  case atStart => exact ⟨0, Nat.zero_le _, rfl, hid (fun i hi => by omega), hbx.out, hcx⟩
  case round =>
    obtain ⟨k, hk, rfl, hE, hB, hc⟩ := hrel
    clear hbx hcx
    by_cases hlt : k < m
    · have g1 := Hrx.out.on hB k (by have := Hx.out; omega)
      obtain ⟨x, hx⟩ : ∃ x, eI xs k = x := ⟨_, rfl⟩
      rw [hx] at g1
      have HX := hid hx
      clear hx
      by_cases hin : 0 ≤ x ∧ x ≤ (n : Int) - 1
      · have G := hid hin
        clear hin
        go_wp2
        go_quiet ((go_at_call 55; exact quiet_same (sIn_yes _ _ _ _ G.out)))
        go_wp2
        go_roundw
        case rel =>
          refine ⟨k + 1, by omega, by go_num, hid (fun i hi => ?_), by simp only [bdn]; exact hB, hc⟩
          rcases Nat.lt_or_ge i k with h | h
          · exact hE.out i h
          · obtain rfl : i = k := by omega
            rw [HX.out]
            have := G.out
            omega
        case measure => simp [intOf]; omega
      · have hin' : x < 0 ∨ (n : Int) - 1 < x := by omega
        have G := hid hin'
        clear hin hin'
        go_wp2
        go_quiet ((go_at_call 55; exact quiet_same (sIn_no _ _ _ _ G.out)))
        go_wp2
        go_ret
        refine ⟨?_, by simp only [bdn]; exact hB⟩
        rw [HR.out, if_neg (fun h => by have h1 := h k hlt; rw [HX.out] at h1; have := G.out; omega)]
        rfl
    · go_wp2
      go_ret
      obtain rfl : k = m := by omega
      refine ⟨?_, hB⟩
      rw [HR.out, if_pos hE.out]
      rfl

theorem sEdg_any (s : Int) (p : Option Addr) (n c b off m d : Nat) (es : List (Int × Int)) (xs : List Int) (w : World) (hm : n ≤ 1048576) (hlen : es.length = n) (hr : SeesE w p es)
    (hx : xs.length = m) (hm2 : m ≤ 9223372036854775807) (hrx : ReadsI w b off xs) :
    Calls Try.prog 26 #[.agg #[.int .i64 s, .slice p n c], .slice (some ⟨b, off, none⟩) m d] w fun e w' => e = .returned (.int .i64 (edgsCode s es xs)) ∧ Below w.heap.size w w' := by
  unfold edgsCode
  by_cases h : IsG s es
  · rw [if_pos h]
    subst hx
    rw [hlen]
    exact sEdg_loop s p n c b off _ d es xs w hm hlen hr h rfl hm2 hrx
  · rw [if_neg h]
    exact sEdg_none s p _ n c m d es w hm hlen hr h


set_option maxRecDepth 100000 in
set_option maxHeartbeats 1000000 in
theorem sVert6_none (s : Int) (p q : Option Addr) (n c m d : Nat) (es : List (Int × Int)) (w : World) (hm : n ≤ 9223372036854775807) (hlen : es.length = n) (hr : SeesE w p es) (h : ¬ IsG s es) :
    Calls Try.prog 27 #[.agg #[.int .i64 s, .slice p n c], .slice q m d] w fun e w' => e = .returned (.int .i64 1) ∧ Below w.heap.size w w' := by
  have Hl := hid hlen
  have Hr := hid hr
  have H := hid h
  clear hlen hr h
  go_enter Try.func27, Try.ntmps27
  go_wp2_with (go_at_call 25; refine (sIs_any _ _ _ _ es _ hm Hl.out (Hr.out.alloc _)).mono ?_; rw [decide_eq_false H.out]; rintro e w2 ⟨rfl, hb2⟩)
  go_ret
  exact ⟨rfl, bfrom (by go_grown) hb2⟩

set_option maxRecDepth 100000 in
set_option maxHeartbeats 2000000 in
theorem sVert6_loop (s : Int) (p : Option Addr) (n c b off m d : Nat) (es : List (Int × Int)) (xs : List Int) (w : World) (hm : n ≤ 9223372036854775807) (hlen : es.length = n) (hr : SeesE w p es) (h : IsG s es)
    (hx : xs.length = m) (hm2 : m ≤ 9223372036854775807) (hrx : ReadsI w b off xs) :
    Calls Try.prog 27 #[.agg #[.int .i64 s, .slice p n c], .slice (some ⟨b, off, none⟩) m d] w fun e w' => e = .returned (.int .i64 (if ∀ i, i < m → 0 ≤ eI xs i ∧ eI xs i < s then 0 else 2)) ∧ Below w.heap.size w w' := by
  have s1 : 2 ≤ s := h.1.1.1
  have s2 : s ≤ 20 := h.1.1.2.1
  have Hl := hid hlen
  have Hr := hid hr
  have H := hid h
  have Hx := hid hx
  have Hrx := hid hrx
  clear hlen hr h hx hrx
  obtain ⟨r, hR⟩ : ∃ r : Int, r = (if ∀ i, i < m → 0 ≤ eI xs i ∧ eI xs i < s then 0 else 2) := ⟨_, rfl⟩
  rw [← hR]
  have HR := hid hR
  clear hR
  go_enter Try.func27, Try.ntmps27
  go_wp2_with (go_at_call 25; refine (sIs_any _ _ _ _ es _ hm Hl.out (Hr.out.alloc _)).mono ?_; rw [decide_eq_true H.out]; rintro e w2 ⟨rfl, hb2⟩)
  have hbx := hid (bfrom (w := w) (by go_grown) hb2)
  have hcx : w2.cell? ⟨w.heap.size, 0, none⟩ = some (.int .i64 s) := by
    rw [(bcells hb2).1 _ _ (by simp)]
    simp
  clear hb2
  go_loopw [5] (fun i wr => ∃ k : Nat, k ≤ m ∧ i = .int .i64 k ∧ Hid (∀ i, i < k → 0 ≤ eI xs i ∧ eI xs i < s) ∧ Below w.heap.size w wr ∧ wr.cell? ⟨w.heap.size, 0, none⟩ = some (.int .i64 s)) (fun i _ => m - (intOf i).toNat)
  case atStart => exact ⟨0, Nat.zero_le _, rfl, hid (fun i hi => by omega), hbx.out, hcx⟩
  case round =>
    obtain ⟨k, hk, rfl, hE, hB, hc⟩ := hrel
    clear hbx hcx
    by_cases hlt : k < m
    · have g1 := Hrx.out.on hB k (by have := Hx.out; omega)
      obtain ⟨x, hx⟩ : ∃ x, eI xs k = x := ⟨_, rfl⟩
      rw [hx] at g1
      have HX := hid hx
      clear hx
      by_cases hin : 0 ≤ x ∧ x ≤ s - 1
      · have G := hid hin
        clear hin
        go_wp2
        go_quiet ((go_at_call 55; exact quiet_same (sIn_yes _ _ _ _ G.out)))
        go_wp2
        go_roundw
        case rel =>
          refine ⟨k + 1, by omega, by go_num, hid (fun i hi => ?_), by simp only [bdn]; exact hB, hc⟩
          rcases Nat.lt_or_ge i k with h | h
          · exact hE.out i h
          · obtain rfl : i = k := by omega
            rw [HX.out]
            have := G.out
            omega
        case measure => simp [intOf]; omega
      · have hin' : x < 0 ∨ s - 1 < x := by omega
        have G := hid hin'
        clear hin hin'
        go_wp2
        go_quiet ((go_at_call 55; exact quiet_same (sIn_no _ _ _ _ G.out)))
        go_wp2
        go_ret
        refine ⟨?_, by simp only [bdn]; exact hB⟩
        rw [HR.out, if_neg (fun h => by have h1 := h k hlt; rw [HX.out] at h1; have := G.out; omega)]
        rfl
    · go_wp2
      go_ret
      obtain rfl : k = m := by omega
      refine ⟨?_, hB⟩
      rw [HR.out, if_pos hE.out]
      rfl

theorem sVert6_any (s : Int) (p : Option Addr) (n c b off m d : Nat) (es : List (Int × Int)) (xs : List Int) (w : World) (hm : n ≤ 9223372036854775807) (hlen : es.length = n) (hr : SeesE w p es)
    (hx : xs.length = m) (hm2 : m ≤ 9223372036854775807) (hrx : ReadsI w b off xs) :
    Calls Try.prog 27 #[.agg #[.int .i64 s, .slice p n c], .slice (some ⟨b, off, none⟩) m d] w fun e w' => e = .returned (.int .i64 (vertsCode s es xs)) ∧ Below w.heap.size w w' := by
  unfold vertsCode
  by_cases h : IsG s es
  · rw [if_pos h]
    subst hx
    exact sVert6_loop s p n c b off _ d es xs w hm hlen hr h rfl hm2 hrx
  · rw [if_neg h]
    exact sVert6_none s p _ n c m d es w hm hlen hr h

end Go.Proofs.Ytfdlhdgmbjdhbaa
