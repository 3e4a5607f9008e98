/- Other ends of edges, in the program. -/
import Derived.Test.YtngmcfkcpbmnoaaOtherA
namespace Go.Proofs.Ytngmcfkcpbmnoaa
open Go.RowKit

def acrossF (a b v : Int) : Int × Bool := if a = v then (b, true) else if b = v then (a, true) else (0, false)

set_option maxHeartbeats 400000 in
theorem iAcross_any (a b v : Int) (w : World) :
    Calls Try.prog 75 #[.agg #[.int .i64 a, .int .i64 b], .int .i64 v] w fun e w' => e = .returned (.tuple #[.int .i64 (acrossF a b v).1, .bool (acrossF a b v).2]) ∧ Below w.heap.size w w' := by
  unfold acrossF
  by_cases h1 : a = v
  · subst h1
    simp only [if_true]
    go_enter Try.func75, Try.ntmps75
    go_wp2
    go_ret2
    exact ⟨rfl, by go_grown⟩
  · rw [if_neg h1]
    have g1 : (v == a) = false := by simp only [beq_eq_false_iff_ne, ne_eq]; exact fun e => h1 e.symm
    by_cases h2 : b = v
    · subst h2
      simp only [if_true]
      clear h1
      go_enter Try.func75, Try.ntmps75
      go_wp2
      go_ret2
      exact ⟨rfl, by go_grown⟩
    · rw [if_neg h2]
      have g2 : (v == b) = false := by simp only [beq_eq_false_iff_ne, ne_eq]; exact fun e => h2 e.symm
      clear h1 h2
      go_enter Try.func75, Try.ntmps75
      go_wp2
      go_ret2
      exact ⟨rfl, by go_grown⟩

set_option maxRecDepth 100000 in
set_option maxHeartbeats 1000000 in
theorem iOtherEnd_none (s e v : Int) (p : Option Addr) (n c : Nat) (es : List (Int × Int)) (w : World) (hm : n ≤ 1048576) (hlen : es.length = n) (hr : SeesE w p es) (h : ¬ IsG s es) :
    Calls Try.prog 35 #[.agg #[.int .i64 s, .slice p n c], .int .i64 e, .int .i64 v] w fun e' w' => e' = .returned (.tuple #[.int .i64 0, .int .i64 1]) ∧ Below w.heap.size w w' := by
  have Hl := hid hlen
  have Hr := hid hr
  have Hm := hid hm
  have H := hid h
  have hm2 : n ≤ 9223372036854775807 := by omega
  clear hlen hr hm h
  go_enter Try.func35, Try.ntmps35
  go_wp2_with (go_at_call 19; refine (iIsGraph_any _ _ _ _ es _ Hm.out Hl.out (Hr.out.alloc _)).mono ?_; rw [decide_eq_false H.out]; rintro e' w2 ⟨rfl, hb2⟩; obtain ⟨hc2, hf2⟩ := bcells hb2; have hB2 := bfrom (w := w) (by go_grown) hb2)
  go_ret2
  exact ⟨rfl, hB2⟩

set_option maxRecDepth 100000 in
set_option maxHeartbeats 1000000 in
theorem iOtherEnd_edge (s e v : Int) (b off n c : Nat) (es : List (Int × Int)) (w : World) (hm : n ≤ 1048576) (hlen : es.length = n) (hr : ReadsE w b off es) (h : IsG s es) (he : ¬ (0 ≤ e ∧ e < n)) :
    Calls Try.prog 35 #[.agg #[.int .i64 s, .slice (some ⟨b, off, none⟩) n c], .int .i64 e, .int .i64 v] w fun e' w' => e' = .returned (.tuple #[.int .i64 0, .int .i64 2]) ∧ Below w.heap.size w w' := by
  have Hl := hid hlen
  have Hr := hid hr
  have Hm := hid hm
  have H := hid h
  have hm2 : n ≤ 9223372036854775807 := by omega
  clear hlen hr hm h
  have He := hid he
  clear he
  go_enter Try.func35, Try.ntmps35
  go_wp2_with (first | (go_at_call 19; refine (iIsGraph_any _ _ _ _ es _ Hm.out Hl.out (SeesE.alloc (.inr ⟨b, off, rfl, Hr.out⟩) _)).mono ?_; rw [decide_eq_true H.out]; rintro e' w2 ⟨rfl, hb2⟩; obtain ⟨hc2, hf2⟩ := bcells hb2; have hB2 := bfrom (w := w) (by go_grown) hb2) | (go_at_call 71; refine (iBelow_no _ _ _ He.out).mono ?_; rintro e' w' ⟨rfl, rfl⟩))
  go_ret2
  exact ⟨rfl, hB2⟩

set_option maxRecDepth 100000 in
set_option maxHeartbeats 1000000 in
theorem iOtherEnd_vertex (s e v : Int) (b off n c : Nat) (es : List (Int × Int)) (w : World) (hm : n ≤ 1048576) (hlen : es.length = n) (hr : ReadsE w b off es) (h : IsG s es) (he : 0 ≤ e ∧ e < n) (hv : ¬ (0 ≤ v ∧ v < s)) (_hne : ¬ e = v) :
    Calls Try.prog 35 #[.agg #[.int .i64 s, .slice (some ⟨b, off, none⟩) n c], .int .i64 e, .int .i64 v] w fun e' w' => e' = .returned (.tuple #[.int .i64 0, .int .i64 2]) ∧ Below w.heap.size w w' := by
  have Hl := hid hlen
  have Hr := hid hr
  have Hm := hid hm
  have H := hid h
  have hm2 : n ≤ 9223372036854775807 := by omega
  clear hlen hr hm h
  have He := hid he
  have Hv := hid hv
  clear he hv _hne
  go_enter Try.func35, Try.ntmps35
  go_wp2_with (first | (go_at_call 19; refine (iIsGraph_any _ _ _ _ es _ Hm.out Hl.out (SeesE.alloc (.inr ⟨b, off, rfl, Hr.out⟩) _)).mono ?_; rw [decide_eq_true H.out]; rintro e' w2 ⟨rfl, hb2⟩; obtain ⟨hc2, hf2⟩ := bcells hb2; have hB2 := bfrom (w := w) (by go_grown) hb2) | (go_at_call_of 71 v; refine (iBelow_no _ _ _ Hv.out).mono ?_; rintro e' w' ⟨rfl, rfl⟩) | (go_at_call_of 71 e; refine (iBelow_yes _ _ _ He.out).mono ?_; rintro e' w' ⟨rfl, rfl⟩))
  go_ret2
  exact ⟨rfl, hB2⟩

set_option maxRecDepth 100000 in
set_option maxHeartbeats 1000000 in
theorem iOtherEnd_found (s v : Int) (b off n c k : Nat) (es : List (Int × Int)) (w : World) (hm : n ≤ 1048576) (hlen : es.length = n) (hr : ReadsE w b off es) (h : IsG s es) (hk : k < n) (hv : 0 ≤ v ∧ v < s) (r : Int) (hR : acrossF (eA es k) (eB es k) v = (r, true)) :
    Calls Try.prog 35 #[.agg #[.int .i64 s, .slice (some ⟨b, off, none⟩) n c], .int .i64 k, .int .i64 v] w fun e' w' => e' = .returned (.tuple #[.int .i64 r, .int .i64 0]) ∧ Below w.heap.size w w' := by
  have Hl := hid hlen
  have Hr := hid hr
  have Hm := hid hm
  have H := hid h
  have hm2 : n ≤ 9223372036854775807 := by omega
  clear hlen hr hm h
  have HR := hid hR
  clear hR
  have hc1 := (Hr.out k (by have := Hl.out; omega)).1
  have hc3 := (Hr.out k (by have := Hl.out; omega)).2
  have hbb : b < w.heap.size := reads_lt Hr.out (by have := Hl.out; omega)
  have e1 : (0 : Int) ≤ (k : Int) ∧ (k : Int) < (n : Int) := by omega
  have Hv := hid hv
  clear hv
  go_enter Try.func35, Try.ntmps35
  go_wp2_with (first | (go_at_call 19; refine (iIsGraph_any _ _ _ _ es _ Hm.out Hl.out (SeesE.alloc (.inr ⟨b, off, rfl, Hr.out⟩) _)).mono ?_; rw [decide_eq_true H.out]; rintro e' w2 ⟨rfl, hb2⟩; obtain ⟨hc2, hf2⟩ := bcells hb2; have hB2 := bfrom (w := w) (by go_grown) hb2; have hd1 := (hB2.cell (p := ⟨b, off + k * 2, none⟩) hbb).trans hc1; have hd3 := (hB2.cell (p := ⟨b, off + k * 2 + 1, none⟩) hbb).trans hc3) | (go_at_call_of 71 v; refine (iBelow_yes _ _ _ Hv.out).mono ?_; rintro e' w' ⟨rfl, rfl⟩) | (go_at_call 71; refine (iBelow_yes _ _ _ e1).mono ?_; rintro e' w' ⟨rfl, rfl⟩) | (go_at_call 75; refine (iAcross_any _ _ _ _).mono ?_; rw [HR.out]; rintro e' w3 ⟨rfl, hb3⟩))
  go_ret2
  exact ⟨rfl, bfrom hB2 hb3⟩

set_option maxRecDepth 100000 in
set_option maxHeartbeats 1000000 in
theorem iOtherEnd_lost (s v : Int) (b off n c k : Nat) (es : List (Int × Int)) (w : World) (hm : n ≤ 1048576) (hlen : es.length = n) (hr : ReadsE w b off es) (h : IsG s es) (hk : k < n) (hv : 0 ≤ v ∧ v < s) (r : Int) (hR : acrossF (eA es k) (eB es k) v = (r, false)) :
    Calls Try.prog 35 #[.agg #[.int .i64 s, .slice (some ⟨b, off, none⟩) n c], .int .i64 k, .int .i64 v] w fun e' w' => e' = .returned (.tuple #[.int .i64 0, .int .i64 5]) ∧ Below w.heap.size w w' := by
  have Hl := hid hlen
  have Hr := hid hr
  have Hm := hid hm
  have H := hid h
  have hm2 : n ≤ 9223372036854775807 := by omega
  clear hlen hr hm h
  have HR := hid hR
  clear hR
  have hc1 := (Hr.out k (by have := Hl.out; omega)).1
  have hc3 := (Hr.out k (by have := Hl.out; omega)).2
  have hbb : b < w.heap.size := reads_lt Hr.out (by have := Hl.out; omega)
  have e1 : (0 : Int) ≤ (k : Int) ∧ (k : Int) < (n : Int) := by omega
  have Hv := hid hv
  clear hv
  go_enter Try.func35, Try.ntmps35
  go_wp2_with (first | (go_at_call 19; refine (iIsGraph_any _ _ _ _ es _ Hm.out Hl.out (SeesE.alloc (.inr ⟨b, off, rfl, Hr.out⟩) _)).mono ?_; rw [decide_eq_true H.out]; rintro e' w2 ⟨rfl, hb2⟩; obtain ⟨hc2, hf2⟩ := bcells hb2; have hB2 := bfrom (w := w) (by go_grown) hb2; have hd1 := (hB2.cell (p := ⟨b, off + k * 2, none⟩) hbb).trans hc1; have hd3 := (hB2.cell (p := ⟨b, off + k * 2 + 1, none⟩) hbb).trans hc3) | (go_at_call_of 71 v; refine (iBelow_yes _ _ _ Hv.out).mono ?_; rintro e' w' ⟨rfl, rfl⟩) | (go_at_call 71; refine (iBelow_yes _ _ _ e1).mono ?_; rintro e' w' ⟨rfl, rfl⟩) | (go_at_call 75; refine (iAcross_any _ _ _ _).mono ?_; rw [HR.out]; rintro e' w3 ⟨rfl, hb3⟩))
  go_ret2
  exact ⟨rfl, bfrom hB2 hb3⟩

set_option maxRecDepth 100000 in
set_option maxHeartbeats 1000000 in
theorem iOtherEnd_same (s e v : Int) (b off n c : Nat) (es : List (Int × Int)) (w : World) (hm : n ≤ 1048576) (hlen : es.length = n) (hr : ReadsE w b off es) (h : IsG s es) (he : 0 ≤ e ∧ e < n) (hv : ¬ (0 ≤ v ∧ v < s)) (hne : e = v) :
    Calls Try.prog 35 #[.agg #[.int .i64 s, .slice (some ⟨b, off, none⟩) n c], .int .i64 e, .int .i64 v] w fun e' w' => e' = .returned (.tuple #[.int .i64 0, .int .i64 2]) ∧ Below w.heap.size w w' := by
  have Hl := hid hlen
  have Hr := hid hr
  have Hm := hid hm
  have H := hid h
  have hm2 : n ≤ 9223372036854775807 := by omega
  clear hlen hr hm h
  subst hne
  obtain ⟨k, rfl⟩ : ∃ k : Nat, e = k := ⟨_, (Int.toNat_of_nonneg he.1).symm⟩
  obtain ⟨t, ht⟩ : ∃ t : Int, s = t := ⟨_, rfl⟩
  have He := hid he
  have Hv := hid hv
  clear he hv ht
  go_enter Try.func35, Try.ntmps35
  go_wp2_with (first | (go_at_call 19; refine (iIsGraph_any _ _ _ _ es _ Hm.out Hl.out (SeesE.alloc (.inr ⟨b, off, rfl, Hr.out⟩) _)).mono ?_; rw [decide_eq_true H.out]; rintro e' w2 ⟨rfl, hb2⟩; obtain ⟨hc2, hf2⟩ := bcells hb2; have hB2 := bfrom (w := w) (by go_grown) hb2) | (go_at_call_of 71 s; refine (iBelow_no _ _ _ Hv.out).mono ?_; rintro e' w' ⟨rfl, rfl⟩) | (go_at_call 71; refine (iBelow_yes _ _ _ He.out).mono ?_; rintro e' w' ⟨rfl, rfl⟩))
  go_ret2
  exact ⟨rfl, hB2⟩

theorem iOtherEnd_any (s e v : Int) (p : Option Addr) (n c : Nat) (es : List (Int × Int)) (w : World) (hm : n ≤ 1048576) (hlen : es.length = n) (hr : SeesE w p es) :
    Calls Try.prog 35 #[.agg #[.int .i64 s, .slice p n c], .int .i64 e, .int .i64 v] w fun e' w' => e' = .returned (.tuple #[.int .i64 (otherF s es e v).1, .int .i64 (otherF s es e v).2]) ∧ Below w.heap.size w w' := by
  unfold otherF
  by_cases h : IsG s es
  · obtain ⟨b, off, rfl, hrd⟩ := isG_sees h hr
    rw [if_pos h]
    by_cases h2 : 0 ≤ e ∧ e < es.length
    · have h2' : 0 ≤ e ∧ e < n := by omega
      by_cases h1 : 0 ≤ v ∧ v < s
      · rw [if_pos ⟨h1, h2⟩]
        obtain ⟨k, rfl⟩ : ∃ k : Nat, e = k := ⟨_, (Int.toNat_of_nonneg h2.1).symm⟩
        have hk : k < n := by omega
        rw [Int.toNat_natCast]
        by_cases h3 : eA es k = v
        · rw [if_pos h3]
          exact iOtherEnd_found s v b off n c k es w hm hlen hrd h hk h1 _ (by unfold acrossF; rw [if_pos h3])
        · rw [if_neg h3]
          by_cases h4 : eB es k = v
          · rw [if_pos h4]
            exact iOtherEnd_found s v b off n c k es w hm hlen hrd h hk h1 _ (by unfold acrossF; rw [if_neg h3, if_pos h4])
          · rw [if_neg h4]
            exact iOtherEnd_lost s v b off n c k es w hm hlen hrd h hk h1 0 (by unfold acrossF; rw [if_neg h3, if_neg h4])
      · rw [if_neg (fun e => h1 e.1)]
        by_cases h5 : e = v
        · exact iOtherEnd_same s e v b off n c es w hm hlen hrd h h2' h1 h5
        · exact iOtherEnd_vertex s e v b off n c es w hm hlen hrd h h2' h1 h5
    · rw [if_neg (fun e => h2 e.2)]
      exact iOtherEnd_edge s e v b off n c es w hm hlen hrd h (by omega)
  · rw [if_neg h]
    exact iOtherEnd_none s e v p n c es w hm hlen hr h

end Go.Proofs.Ytngmcfkcpbmnoaa
