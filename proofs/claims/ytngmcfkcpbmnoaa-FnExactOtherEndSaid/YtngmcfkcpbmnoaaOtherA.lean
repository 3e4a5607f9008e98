/- Other ends of edges, in the model and in the program. -/
import Derived.Test.YtngmcfkcpbmnoaaSpecD
import Derived.Test.YtngmcfkcpbmnoaaImplG
namespace Go.Proofs.Ytngmcfkcpbmnoaa
open Go.RowKit

theorem isG_sees {s : Int} {p : Option Addr} {es : List (Int × Int)} {w : World} (h : IsG s es) (hr : SeesE w p es) : ∃ b off, p = some ⟨b, off, none⟩ ∧ ReadsE w b off es := by
  rcases hr with rfl | h2
  · exact absurd h.1.1.2.2.2 (by have := h.1.1.1; simp; omega)
  · exact h2

theorem isG_len {s : Int} {es : List (Int × Int)} (h : IsG s es) : es.length ≤ 30 := by
  have h1 := h.1.1.2.2.2
  have h2 := h.1.1.2.1
  omega

def otherF (s : Int) (es : List (Int × Int)) (e v : Int) : Int × Int :=
  if IsG s es then (if (0 ≤ v ∧ v < s) ∧ 0 ≤ e ∧ e < es.length then (if eA es e.toNat = v then (eB es e.toNat, 0) else if eB es e.toNat = v then (eA es e.toNat, 0) else (0, 5)) else (0, 2)) else (0, 1)

theorem reads_one (w : World) (v : Int) (t : TypeId) (g : Nat) (hg : g = w.heap.size) : ReadsI (w.alloc (.cells #[.int .i64 v] t)) g 0 [v] := fun i hi => by
  subst hg
  obtain rfl : i = 0 := by simpa using hi
  simp [eI]

theorem verts_one (s : Int) (es : List (Int × Int)) (v : Int) : vertsCode s es [v] = if IsG s es then (if 0 ≤ v ∧ v < s then 0 else 2) else 1 := by
  unfold vertsCode
  by_cases h : IsG s es
  · rw [if_pos h, if_pos h]
    by_cases h2 : 0 ≤ v ∧ v < s
    · rw [if_pos h2, if_pos (fun i hi => by obtain rfl : i = 0 := by simpa using hi
                                            simpa [eI] using h2)]
    · rw [if_neg h2, if_neg (fun e => h2 (by simpa [eI] using e 0 (by simp)))]
  · rw [if_neg h, if_neg h]

set_option maxRecDepth 100000 in
set_option maxHeartbeats 2000000 in
theorem sOtherEnd_code (s e v q : Int) (p : Option Addr) (n c : Nat) (es : List (Int × Int)) (w : World) (hm : n ≤ 9223372036854775807) (hlen : es.length = n) (hr : SeesE w p es) (hV : vertsCode s es [v] = q) (hq : (q == 0) = false) :
    Calls Try.prog 34 #[.agg #[.int .i64 s, .slice p n c], .int .i64 e, .int .i64 v] w fun e' w' => e' = .returned (.tuple #[.int .i64 0, .int .i64 q]) ∧ Below w.heap.size w w' := by
  have Hl := hid hlen
  have Hr := hid hr
  clear hlen hr
  have HV := hid hV
  clear hV
  have hq' : (q != 0) = true := by simpa using hq
  go_enter Try.func34, Try.ntmps34
  go_wp2_with (go_at_call 69; refine (sVerts_any _ _ _ _ _ _ 1 _ es [v] _ hm Hl.out ((Hr.out.alloc _).alloc _) rfl (by omega) (reads_one _ _ _ _ (by simp))).mono ?_; rw [HV.out]; rintro e' w2 ⟨rfl, hb2⟩; obtain ⟨hc2, hf2⟩ := bcells hb2; have hB2 := bfrom (w := w) (by go_grown) hb2)
  go_ret2
  exact ⟨rfl, hB2⟩

set_option maxRecDepth 100000 in
set_option maxHeartbeats 2000000 in
theorem sOtherEnd_edge (s e v : Int) (b off n c : Nat) (es : List (Int × Int)) (w : World) (hm : n ≤ 9223372036854775807) (hlen : es.length = n) (hr : ReadsE w b off es) (hV : vertsCode s es [v] = 0) (he : e < 0 ∨ (n : Int) - 1 < e) :
    Calls Try.prog 34 #[.agg #[.int .i64 s, .slice (some ⟨b, off, none⟩) n c], .int .i64 e, .int .i64 v] w fun e' w' => e' = .returned (.tuple #[.int .i64 0, .int .i64 2]) ∧ Below w.heap.size w w' := by
  have Hl := hid hlen
  have Hr := hid hr
  clear hlen hr
  have HV := hid hV
  have He := hid he
  clear hV he
  go_enter Try.func34, Try.ntmps34
  go_wp2_with (first | (go_at_call 69; refine (sVerts_any _ _ _ _ _ _ 1 _ es [v] _ hm Hl.out (SeesE.alloc (SeesE.alloc (.inr ⟨b, off, rfl, Hr.out⟩) _) _) rfl (by omega) (reads_one _ _ _ _ (by simp))).mono ?_; rw [HV.out]; rintro e' w2 ⟨rfl, hb2⟩; obtain ⟨hc2, hf2⟩ := bcells hb2; have hB2 := bfrom (w := w) (by go_grown) hb2) | (go_at_call 73; refine (sIn_no _ _ _ _ He.out).mono ?_; rintro e' w' ⟨rfl, rfl⟩))
  go_ret2
  exact ⟨rfl, hB2⟩

set_option maxRecDepth 100000 in
set_option maxHeartbeats 2000000 in
theorem sOtherEnd_none (s v : Int) (b off n c k : Nat) (es : List (Int × Int)) (w : World) (hm : n ≤ 9223372036854775807) (hlen : es.length = n) (hr : ReadsE w b off es) (hV : vertsCode s es [v] = 0) (hk : k < n) (h1 : ¬ eA es k = v) (h2 : ¬ eB es k = v) :
    Calls Try.prog 34 #[.agg #[.int .i64 s, .slice (some ⟨b, off, none⟩) n c], .int .i64 k, .int .i64 v] w fun e' w' => e' = .returned (.tuple #[.int .i64 0, .int .i64 5]) ∧ Below w.heap.size w w' := by
  have Hl := hid hlen
  have Hr := hid hr
  clear hlen hr
  have HV := hid hV
  have g1 : (eA es k != v) = true := by simpa using h1
  have g2 : (eB es k != v) = true := by simpa using h2
  clear hV h1 h2
  have hc1 := (Hr.out k (by have := Hl.out; omega)).1
  have hc3 := (Hr.out k (by have := Hl.out; omega)).2
  have hbb : b < w.heap.size := reads_lt Hr.out (by have := Hl.out; omega)
  have e1 : (0 : Int) ≤ (k : Int) ∧ (k : Int) ≤ (n : Int) - 1 := by omega
  go_enter Try.func34, Try.ntmps34
  go_wp2_with (first | (go_at_call 69; refine (sVerts_any _ _ _ _ _ _ 1 _ es [v] _ hm Hl.out (SeesE.alloc (SeesE.alloc (.inr ⟨b, off, rfl, Hr.out⟩) _) _) rfl (by omega) (reads_one _ _ _ _ (by simp))).mono ?_; rw [HV.out]; rintro e' w2 ⟨rfl, hb2⟩; obtain ⟨hc2, hf2⟩ := bcells hb2; have hB2 := bfrom (w := w) (by go_grown) hb2; have hd1 := (hB2.cell (p := ⟨b, off + k * 2, none⟩) hbb).trans hc1; have hd3 := (hB2.cell (p := ⟨b, off + k * 2 + 1, none⟩) hbb).trans hc3) | (go_at_call 73; refine (sIn_yes _ _ _ _ e1).mono ?_; rintro e' w' ⟨rfl, rfl⟩))
  go_ret2
  exact ⟨rfl, hB2⟩

set_option maxRecDepth 100000 in
set_option maxHeartbeats 2000000 in
theorem sOtherEnd_first (s v : Int) (b off n c k : Nat) (es : List (Int × Int)) (w : World) (hm : n ≤ 9223372036854775807) (hlen : es.length = n) (hr : ReadsE w b off es) (hV : vertsCode s es [v] = 0) (hk : k < n) (hok : okEdge s (eA es k) (eB es k)) (hs : s ≤ 20) (h1 : eA es k = v) :
    Calls Try.prog 34 #[.agg #[.int .i64 s, .slice (some ⟨b, off, none⟩) n c], .int .i64 k, .int .i64 v] w fun e' w' => e' = .returned (.tuple #[.int .i64 (eB es k), .int .i64 0]) ∧ Below w.heap.size w w' := by
  have Hl := hid hlen
  have Hr := hid hr
  clear hlen hr
  have HV := hid hV
  have g1 : (eA es k != v) = false := by simpa using h1
  have HE : Hid (eA es k + eB es k - v = eB es k) := hid (by omega)
  have hv : 0 ≤ v ∧ v ≤ 1000 := by have := hok.1; have := hok.2.1; omega
  have Hv := hid hv
  have Hok := hid hok
  have Hs := hid hs
  clear hV hok hs hv h1
  have hc1 := (Hr.out k (by have := Hl.out; omega)).1
  have hc3 := (Hr.out k (by have := Hl.out; omega)).2
  have hbb : b < w.heap.size := reads_lt Hr.out (by have := Hl.out; omega)
  have e1 : (0 : Int) ≤ (k : Int) ∧ (k : Int) ≤ (n : Int) - 1 := by omega
  go_enter Try.func34, Try.ntmps34
  go_wp2_with (first | (go_at_call 69; refine (sVerts_any _ _ _ _ _ _ 1 _ es [v] _ hm Hl.out (SeesE.alloc (SeesE.alloc (.inr ⟨b, off, rfl, Hr.out⟩) _) _) rfl (by omega) (reads_one _ _ _ _ (by simp))).mono ?_; rw [HV.out]; rintro e' w2 ⟨rfl, hb2⟩; obtain ⟨hc2, hf2⟩ := bcells hb2; have hB2 := bfrom (w := w) (by go_grown) hb2; have hd1 := (hB2.cell (p := ⟨b, off + k * 2, none⟩) hbb).trans hc1; have hd3 := (hB2.cell (p := ⟨b, off + k * 2 + 1, none⟩) hbb).trans hc3) | (go_at_call 73; refine (sIn_yes _ _ _ _ e1).mono ?_; rintro e' w' ⟨rfl, rfl⟩) | (go_at_call 74; refine (sOther_any _ _ _ _ _ _ _ k es _ hm Hl.out ((((Hr.out.on ((Below.refl _ _).alloc (Nat.le_refl _) _)).on ((Below.refl _ _).alloc (Nat.le_refl _) _))).on hb2) rfl hk (by have := Hok.out.1; have := Hok.out.2.1; have := Hs.out; omega) (by have := Hok.out.2.2.1; have := Hok.out.2.2.2.1; have := Hs.out; omega) Hv.out).mono ?_; rw [HE.out]; rintro e' w3 ⟨rfl, hb3⟩))
  go_ret2
  exact ⟨rfl, bfrom hB2 hb3⟩

set_option maxRecDepth 100000 in
set_option maxHeartbeats 2000000 in
theorem sOtherEnd_second (s v : Int) (b off n c k : Nat) (es : List (Int × Int)) (w : World) (hm : n ≤ 9223372036854775807) (hlen : es.length = n) (hr : ReadsE w b off es) (hV : vertsCode s es [v] = 0) (hk : k < n) (hok : okEdge s (eA es k) (eB es k)) (hs : s ≤ 20) (h1 : ¬ eA es k = v) (h2 : eB es k = v) :
    Calls Try.prog 34 #[.agg #[.int .i64 s, .slice (some ⟨b, off, none⟩) n c], .int .i64 k, .int .i64 v] w fun e' w' => e' = .returned (.tuple #[.int .i64 (eA es k), .int .i64 0]) ∧ Below w.heap.size w w' := by
  have Hl := hid hlen
  have Hr := hid hr
  clear hlen hr
  have HV := hid hV
  have g1 : (eA es k != v) = true := by simpa using h1
  have g2 : (eB es k != v) = false := by simpa using h2
  have HE : Hid (eA es k + eB es k - v = eA es k) := hid (by omega)
  have hv : 0 ≤ v ∧ v ≤ 1000 := by have := hok.2.2.1; have := hok.2.2.2.1; omega
  have Hv := hid hv
  have Hok := hid hok
  have Hs := hid hs
  clear hV hok hs hv h1 h2
  have hc1 := (Hr.out k (by have := Hl.out; omega)).1
  have hc3 := (Hr.out k (by have := Hl.out; omega)).2
  have hbb : b < w.heap.size := reads_lt Hr.out (by have := Hl.out; omega)
  have e1 : (0 : Int) ≤ (k : Int) ∧ (k : Int) ≤ (n : Int) - 1 := by omega
  go_enter Try.func34, Try.ntmps34
  go_wp2_with (first | (go_at_call 69; refine (sVerts_any _ _ _ _ _ _ 1 _ es [v] _ hm Hl.out (SeesE.alloc (SeesE.alloc (.inr ⟨b, off, rfl, Hr.out⟩) _) _) rfl (by omega) (reads_one _ _ _ _ (by simp))).mono ?_; rw [HV.out]; rintro e' w2 ⟨rfl, hb2⟩; obtain ⟨hc2, hf2⟩ := bcells hb2; have hB2 := bfrom (w := w) (by go_grown) hb2; have hd1 := (hB2.cell (p := ⟨b, off + k * 2, none⟩) hbb).trans hc1; have hd3 := (hB2.cell (p := ⟨b, off + k * 2 + 1, none⟩) hbb).trans hc3) | (go_at_call 73; refine (sIn_yes _ _ _ _ e1).mono ?_; rintro e' w' ⟨rfl, rfl⟩) | (go_at_call 74; refine (sOther_any _ _ _ _ _ _ _ k es _ hm Hl.out ((((Hr.out.on ((Below.refl _ _).alloc (Nat.le_refl _) _)).on ((Below.refl _ _).alloc (Nat.le_refl _) _))).on hb2) rfl hk (by have := Hok.out.1; have := Hok.out.2.1; have := Hs.out; omega) (by have := Hok.out.2.2.1; have := Hok.out.2.2.2.1; have := Hs.out; omega) Hv.out).mono ?_; rw [HE.out]; rintro e' w3 ⟨rfl, hb3⟩))
  go_ret2
  exact ⟨rfl, bfrom hB2 hb3⟩

theorem sOtherEnd_any (s e v : Int) (p : Option Addr) (n c : Nat) (es : List (Int × Int)) (w : World) (hm : n ≤ 9223372036854775807) (hlen : es.length = n) (hr : SeesE w p es) :
    Calls Try.prog 34 #[.agg #[.int .i64 s, .slice p n c], .int .i64 e, .int .i64 v] w fun e' w' => e' = .returned (.tuple #[.int .i64 (otherF s es e v).1, .int .i64 (otherF s es e v).2]) ∧ Below w.heap.size w w' := by
  unfold otherF
  have hV := verts_one s es v
  by_cases h : IsG s es
  · obtain ⟨b, off, rfl, hrd⟩ := isG_sees h hr
    rw [if_pos h] at hV ⊢
    by_cases h1 : 0 ≤ v ∧ v < s
    · rw [if_pos h1] at hV
      by_cases h2 : 0 ≤ e ∧ e < es.length
      · rw [if_pos ⟨h1, h2⟩]
        obtain ⟨k, rfl⟩ : ∃ k : Nat, e = k := ⟨_, (Int.toNat_of_nonneg h2.1).symm⟩
        have hk : k < n := by omega
        have hok := h.1.2 k (by omega)
        have hs := h.1.1.2.1
        rw [Int.toNat_natCast]
        by_cases h3 : eA es k = v
        · rw [if_pos h3]
          exact sOtherEnd_first s v b off n c k es w hm hlen hrd hV hk hok hs h3
        · rw [if_neg h3]
          by_cases h4 : eB es k = v
          · rw [if_pos h4]
            exact sOtherEnd_second s v b off n c k es w hm hlen hrd hV hk hok hs h3 h4
          · rw [if_neg h4]
            exact sOtherEnd_none s v b off n c k es w hm hlen hrd hV hk h3 h4
      · rw [if_neg (fun e => h2 e.2)]
        exact sOtherEnd_edge s e v b off n c es w hm hlen hrd hV (by omega)
    · rw [if_neg h1] at hV
      rw [if_neg (fun e => h1 e.1)]
      exact sOtherEnd_code s e v 2 _ n c es w hm hlen hr hV rfl
  · rw [if_neg h] at hV ⊢
    exact sOtherEnd_code s e v 1 p n c es w hm hlen hr hV rfl

end Go.Proofs.Ytngmcfkcpbmnoaa
