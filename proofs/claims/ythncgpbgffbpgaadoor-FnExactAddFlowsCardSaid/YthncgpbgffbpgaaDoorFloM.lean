/- IsFlow, IsNowhereZero, IsWholeFlow in the model. -/
import Derived.Test.YthncgpbgffbpgaaDoorFloT
namespace Go.Proofs.YthncgpbgffbpgaaDoor
open Go.RowKit

theorem fl_wrap (s m lo : Int) (es : List (Int × Int)) (xs : List Int) : flCode s es m lo (wrap64 (m - 1)) xs = flCode s es m lo (m - 1) xs := by
  unfold flCode
  by_cases h : modCode s es m = 0
  · have hm := (modCode_of h).2
    unfold okMod at hm
    rw [show wrap64 (m - 1) = m - 1 by unfold wrap64; omega]
  · rw [if_neg h, if_neg h]

set_option maxRecDepth 100000 in
set_option maxHeartbeats 4000000 in
theorem sIsFlow_no (s : Int) (p q : Option Addr) (n c k d : Nat) (es : List (Int × Int)) (m : Int) (xs : List Int) (w : World) (hm : n ≤ 1048576) (hn : es.length = n) (hr : SeesE w p es) (hk9 : k ≤ 1048576) (hx : xs.length = k) (hrx : SeesI w q xs) (h0 : ¬ flCode s es m 0 (m - 1) xs = 0) :
    Calls Tryd.prog 8 #[.agg #[.int .i64 s, .slice p n c], .int .i64 m, .slice q k d] w fun e' w' => e' = .returned (.tuple #[.bool false, .int .i64 (flCode s es m 0 (m - 1) xs)]) ∧ Below w.heap.size w w' := by
  have Hn := hid hn
  have Hr := hid hr
  have Hx := hid hx
  have Hrx := hid hrx
  obtain ⟨r, hR⟩ : ∃ r, flCode s es m 0 (m - 1) xs = r := ⟨_, rfl⟩
  have h0' : (r != 0) = true := by rw [← hR]; simpa using h0
  rw [hR]
  have HR := hid hR
  clear hn hr hx hrx h0 hR
  go_enter Tryd.func8, Tryd.ntmps8
  go_wp2_with fail
  refine (sFList_any s p n c es m q k d xs _ _ _ hm Hn.out (Hr.out.on (on_alloc _ _)) hk9 Hx.out (Hrx.out.on (on_alloc _ _))).mono ?_
  rw [fl_wrap, HR.out]
  rintro e w2 ⟨rfl, hb2⟩
  have hB2 : Below w.heap.size w w2 := bfrom (on_alloc _ _) hb2
  clear hb2
  go_wp2
  go_ret2
  exact ⟨rfl, hB2⟩

set_option maxRecDepth 100000 in
set_option maxHeartbeats 4000000 in
theorem sIsNowhereZero_no (s : Int) (p q : Option Addr) (n c k d : Nat) (es : List (Int × Int)) (m : Int) (xs : List Int) (w : World) (hm : n ≤ 1048576) (hn : es.length = n) (hr : SeesE w p es) (hk9 : k ≤ 1048576) (hx : xs.length = k) (hrx : SeesI w q xs) (h0 : ¬ flCode s es m 0 (m - 1) xs = 0) :
    Calls Tryd.prog 14 #[.agg #[.int .i64 s, .slice p n c], .int .i64 m, .slice q k d] w fun e' w' => e' = .returned (.tuple #[.bool false, .int .i64 (flCode s es m 0 (m - 1) xs)]) ∧ Below w.heap.size w w' := by
  have Hn := hid hn
  have Hr := hid hr
  have Hx := hid hx
  have Hrx := hid hrx
  obtain ⟨r, hR⟩ : ∃ r, flCode s es m 0 (m - 1) xs = r := ⟨_, rfl⟩
  have h0' : (r != 0) = true := by rw [← hR]; simpa using h0
  rw [hR]
  have HR := hid hR
  clear hn hr hx hrx h0 hR
  go_enter Tryd.func14, Tryd.ntmps14
  go_wp2_with fail
  refine (sFList_any s p n c es m q k d xs _ _ _ hm Hn.out (Hr.out.on (on_alloc _ _)) hk9 Hx.out (Hrx.out.on (on_alloc _ _))).mono ?_
  rw [fl_wrap, HR.out]
  rintro e w2 ⟨rfl, hb2⟩
  have hB2 : Below w.heap.size w w2 := bfrom (on_alloc _ _) hb2
  clear hb2
  go_wp2
  go_ret2
  exact ⟨rfl, hB2⟩

set_option maxRecDepth 100000 in
set_option maxHeartbeats 4000000 in
theorem sIsWholeFlow_no (s : Int) (p q : Option Addr) (n c k d : Nat) (es : List (Int × Int)) (m : Int) (xs : List Int) (w : World) (hm : n ≤ 1048576) (hn : es.length = n) (hr : SeesE w p es) (hk9 : k ≤ 1048576) (hx : xs.length = k) (hrx : SeesI w q xs) (h0 : ¬ flCode s es m (-1000) 1000 xs = 0) :
    Calls Tryd.prog 16 #[.agg #[.int .i64 s, .slice p n c], .int .i64 m, .slice q k d] w fun e' w' => e' = .returned (.tuple #[.bool false, .int .i64 (flCode s es m (-1000) 1000 xs)]) ∧ Below w.heap.size w w' := by
  have Hn := hid hn
  have Hr := hid hr
  have Hx := hid hx
  have Hrx := hid hrx
  obtain ⟨r, hR⟩ : ∃ r, flCode s es m (-1000) 1000 xs = r := ⟨_, rfl⟩
  have h0' : (r != 0) = true := by rw [← hR]; simpa using h0
  rw [hR]
  have HR := hid hR
  clear hn hr hx hrx h0 hR
  go_enter Tryd.func16, Tryd.ntmps16
  go_wp2_with fail
  refine (sFList_any s p n c es m q k d xs _ _ _ hm Hn.out (Hr.out.on (on_alloc _ _)) hk9 Hx.out (Hrx.out.on (on_alloc _ _))).mono ?_
  rw [HR.out]
  rintro e w2 ⟨rfl, hb2⟩
  have hB2 : Below w.heap.size w w2 := bfrom (on_alloc _ _) hb2
  clear hb2
  go_wp2
  go_ret2
  exact ⟨rfl, hB2⟩

set_option maxRecDepth 100000 in
set_option maxHeartbeats 8000000 in
theorem sIsFlow_yes (N b off n c d : Nat) (q : Option Addr) (es : List (Int × Int)) (m : Int) (xs : List Int) (w : World) (hm : n ≤ 1048576) (hn : es.length = n) (hr : ReadsE w b off es) (hx : xs.length = n) (hrx : SeesI w q xs) (h0 : flCode N es m 0 (m - 1) xs = 0) :
    Calls Tryd.prog 8 #[.agg #[.int .i64 N, .slice (some ⟨b, off, none⟩) n c], .int .i64 m, .slice q n d] w fun e' w' => e' = .returned (.tuple #[.bool (decide (flowP (zMod m) N es xs)), .int .i64 0]) ∧ Below w.heap.size w w' := by
  obtain ⟨g, hok, hlen, hvals⟩ := flCode_of h0
  have Hn := hid hn
  have Hr := hid hr
  have Hx := hid hx
  have Hrx := hid hrx
  have GG := hid g
  have H0 := hid h0
  have HOK := hid hok
  have HM := hid (show 2 ≤ m ∧ m ≤ 6 from hok)
  have HV := hid (show ∀ i, i < xs.length → -1000 ≤ eI xs i ∧ eI xs i ≤ 1000 from fun i hi => by have := hvals i hi; unfold okMod at hok; omega)
  have e1 : IntKind.i64.wrap (m - 1) = m - 1 := IntWalk.i64_in _ (by unfold okMod at hok; omega)
  have e2 : IntKind.i64.wrap (1 - m) = 1 - m := IntWalk.i64_in _ (by unfold okMod at hok; omega)
  have hn30 : n ≤ 30 := by have := isG_len g; omega
  have hN4 : N ≤ 20 := by have := g.1.1.2.1; omega
  obtain ⟨sb, so, rfl, hrd⟩ : ∃ sb so, q = some ⟨sb, so, none⟩ ∧ ReadsI w sb so xs := by
    have hn3 : 0 < n := by have := g.1.1; unfold okSize at this; omega
    rcases hrx with h | h
    · rw [h] at hx; simp at hx; omega
    · exact h
  have Hrd := hid hrd
  obtain ⟨r, hR⟩ : ∃ r, r = decide (flowP (zMod m) N es xs) := ⟨_, rfl⟩
  rw [← hR]
  have HR := hid hR
  clear hn hr hx hrx g h0 hok hlen hvals hR hrd
  go_enter Tryd.func8, Tryd.ntmps8
  go_wp2_with fail
  refine (sFList_any N (some ⟨b, off, none⟩) n c es m (some ⟨sb, so, none⟩) n d xs _ _ _ hm Hn.out (SeesE.on (.inr ⟨b, off, rfl, Hr.out⟩) (on_alloc _ _)) hm Hx.out (Hrx.out.on (on_alloc _ _))).mono ?_
  rw [H0.out]
  rintro e w2 ⟨rfl, hb2⟩
  have HB2 := hid (show Below w.heap.size w w2 from bfrom (on_alloc _ _) hb2)
  have hX2 := (Box.new w N (some ⟨b, off, none⟩) n c 31).on hb2
  have HX2 := hid hX2
  have hx2 := hX2.1
  have hy2 := hX2.2
  have hz2 : w.heap.size < w2.heap.size := hX2.lt
  clear hb2 hX2
  go_wp2_with fail
  refine (sFlow_any N b off n c d (some ⟨sb, so, none⟩) es xs m _ Hn.out (Hr.out.on HB2.out) Hx.out (Hrx.out.on HB2.out) GG.out HV.out HOK.out).mono ?_
  rw [← HR.out]
  rintro e w3 ⟨rfl, hb3⟩
  have HB3 := hid (bfrom HB2.out hb3)
  clear hb3
  go_wp2
  go_ret2
  exact ⟨rfl, HB3.out⟩

set_option maxRecDepth 100000 in
set_option maxHeartbeats 8000000 in
theorem sIsNowhereZero_yes (N b off n c d : Nat) (q : Option Addr) (es : List (Int × Int)) (m : Int) (xs : List Int) (w : World) (hm : n ≤ 1048576) (hn : es.length = n) (hr : ReadsE w b off es) (hx : xs.length = n) (hrx : SeesI w q xs) (h0 : flCode N es m 0 (m - 1) xs = 0) :
    Calls Tryd.prog 14 #[.agg #[.int .i64 N, .slice (some ⟨b, off, none⟩) n c], .int .i64 m, .slice q n d] w fun e' w' => e' = .returned (.tuple #[.bool (decide (hasP 1 (m - 1) xs ∧ flowP (zMod m) N es xs)), .int .i64 0]) ∧ Below w.heap.size w w' := by
  obtain ⟨g, hok, hlen, hvals⟩ := flCode_of h0
  have Hn := hid hn
  have Hr := hid hr
  have Hx := hid hx
  have Hrx := hid hrx
  have GG := hid g
  have H0 := hid h0
  have HOK := hid hok
  have HM := hid (show 2 ≤ m ∧ m ≤ 6 from hok)
  have HV := hid (show ∀ i, i < xs.length → -1000 ≤ eI xs i ∧ eI xs i ≤ 1000 from fun i hi => by have := hvals i hi; unfold okMod at hok; omega)
  have e1 : IntKind.i64.wrap (m - 1) = m - 1 := IntWalk.i64_in _ (by unfold okMod at hok; omega)
  have e2 : IntKind.i64.wrap (1 - m) = 1 - m := IntWalk.i64_in _ (by unfold okMod at hok; omega)
  have hn30 : n ≤ 30 := by have := isG_len g; omega
  have hN4 : N ≤ 20 := by have := g.1.1.2.1; omega
  obtain ⟨sb, so, rfl, hrd⟩ : ∃ sb so, q = some ⟨sb, so, none⟩ ∧ ReadsI w sb so xs := by
    have hn3 : 0 < n := by have := g.1.1; unfold okSize at this; omega
    rcases hrx with h | h
    · rw [h] at hx; simp at hx; omega
    · exact h
  have Hrd := hid hrd
  obtain ⟨r, hR⟩ : ∃ r, r = decide (hasP 1 (m - 1) xs ∧ flowP (zMod m) N es xs) := ⟨_, rfl⟩
  rw [← hR]
  have HR := hid hR
  have HVV := hid hvals
  clear hn hr hx hrx g h0 hok hlen hvals hR hrd
  go_enter Tryd.func14, Tryd.ntmps14
  go_wp2_with fail
  refine (sFList_any N (some ⟨b, off, none⟩) n c es m (some ⟨sb, so, none⟩) n d xs _ _ _ hm Hn.out (SeesE.on (.inr ⟨b, off, rfl, Hr.out⟩) (on_alloc _ _)) hm Hx.out (Hrx.out.on (on_alloc _ _))).mono ?_
  rw [H0.out]
  rintro e w2 ⟨rfl, hb2⟩
  have HB2 := hid (show Below w.heap.size w w2 from bfrom (on_alloc _ _) hb2)
  have hX2 := (Box.new w N (some ⟨b, off, none⟩) n c 31).on hb2
  have HX2 := hid hX2
  have hx2 := hX2.1
  have hy2 := hX2.2
  have hz2 : w.heap.size < w2.heap.size := hX2.lt
  clear hb2 hX2
  go_wp2
  go_loopw [9] (fun iv wr => ∃ i : Nat, i ≤ n ∧ iv = .int .i64 i ∧ Hid (∀ j, j < i → eI xs j ≠ 0) ∧ wr = w2) (fun iv _ => n - (intOf iv).toNat)
  case atStart => exact ⟨0, Nat.zero_le _, rfl, hid (fun j hj => by omega), rfl⟩
  case round =>
    obtain ⟨i, hi, rfl, hD, rfl⟩ := hrel
    by_cases hlt : i < n
    · have hcc := Hrd.out.on HB2.out i (by have := Hx.out; omega)
      have hcb := (Hrd.out.on HB2.out).lt (by have := Hx.out; omega)
      obtain ⟨x, hxx⟩ : ∃ x, eI xs i = x := ⟨_, rfl⟩
      rw [hxx] at hcc
      have HXX := hid hxx
      clear hxx
      by_cases h1 : x = 0
      · have h1' : (x == 0) = true := by simpa using h1
        have H1 := hid h1
        clear h1
        go_wp2
        go_ret2
        refine ⟨?_, HB2.out⟩
        rw [HR.out, decide_eq_false (fun h => by have h2 := (h.1 i (by have := Hx.out; omega)).1; rw [HXX.out] at h2; exact h2 H1.out)]
        rfl
      · have h1' : (x == 0) = false := by simpa using h1
        have H1 := hid h1
        clear h1
        go_wp2
        go_roundw
        case rel =>
          refine ⟨i + 1, by omega, by go_num, hid (fun j hj => ?_), by trivial⟩
          rcases Nat.lt_or_ge j i with h | h
          · exact hD.out j h
          · obtain rfl : j = i := by omega
            rw [HXX.out]; exact H1.out
        case measure => simp [intOf]; omega
    · obtain rfl : i = n := by omega
      have HH := hid (show hasP 1 (m - 1) xs from fun j hj => by have h1 := hD.out j (by have := Hx.out; omega); have h2 := HVV.out j hj; exact ⟨h1, by omega, h2.2⟩)
      go_wp2_with fail
      refine (sFlow_any N b off i c d (some ⟨sb, so, none⟩) es xs m _ Hn.out (Hr.out.on HB2.out) Hx.out (Hrx.out.on HB2.out) GG.out HV.out HOK.out).mono ?_
      rw [show decide (flowP (zMod m) N es xs) = r by rw [HR.out]; exact decide_eq_decide.2 ⟨fun h => ⟨HH.out, h⟩, fun h => h.2⟩]
      rintro e w3 ⟨rfl, hb3⟩
      have HB3 := hid (bfrom HB2.out hb3)
      clear hb3
      go_wp2
      go_ret2
      exact ⟨rfl, HB3.out⟩

set_option maxRecDepth 100000 in
set_option maxHeartbeats 8000000 in
theorem sIsWholeFlow_yes (N b off n c d : Nat) (q : Option Addr) (es : List (Int × Int)) (m : Int) (xs : List Int) (w : World) (hm : n ≤ 1048576) (hn : es.length = n) (hr : ReadsE w b off es) (hx : xs.length = n) (hrx : SeesI w q xs) (h0 : flCode N es m (-1000) 1000 xs = 0) :
    Calls Tryd.prog 16 #[.agg #[.int .i64 N, .slice (some ⟨b, off, none⟩) n c], .int .i64 m, .slice q n d] w fun e' w' => e' = .returned (.tuple #[.bool (decide (hasP (1 - m) (m - 1) xs ∧ flowP zAll N es xs)), .int .i64 0]) ∧ Below w.heap.size w w' := by
  obtain ⟨g, hok, hlen, hvals⟩ := flCode_of h0
  have Hn := hid hn
  have Hr := hid hr
  have Hx := hid hx
  have Hrx := hid hrx
  have GG := hid g
  have H0 := hid h0
  have HOK := hid hok
  have HM := hid (show 2 ≤ m ∧ m ≤ 6 from hok)
  have HV := hid (show ∀ i, i < xs.length → -1000 ≤ eI xs i ∧ eI xs i ≤ 1000 from fun i hi => by have := hvals i hi; unfold okMod at hok; omega)
  have e1 : IntKind.i64.wrap (m - 1) = m - 1 := IntWalk.i64_in _ (by unfold okMod at hok; omega)
  have e2 : IntKind.i64.wrap (1 - m) = 1 - m := IntWalk.i64_in _ (by unfold okMod at hok; omega)
  have hn30 : n ≤ 30 := by have := isG_len g; omega
  have hN4 : N ≤ 20 := by have := g.1.1.2.1; omega
  obtain ⟨sb, so, rfl, hrd⟩ : ∃ sb so, q = some ⟨sb, so, none⟩ ∧ ReadsI w sb so xs := by
    have hn3 : 0 < n := by have := g.1.1; unfold okSize at this; omega
    rcases hrx with h | h
    · rw [h] at hx; simp at hx; omega
    · exact h
  have Hrd := hid hrd
  obtain ⟨r, hR⟩ : ∃ r, r = decide (hasP (1 - m) (m - 1) xs ∧ flowP zAll N es xs) := ⟨_, rfl⟩
  rw [← hR]
  have HR := hid hR
  clear hn hr hx hrx g h0 hok hlen hvals hR hrd
  go_enter Tryd.func16, Tryd.ntmps16
  go_wp2_with fail
  refine (sFList_any N (some ⟨b, off, none⟩) n c es m (some ⟨sb, so, none⟩) n d xs _ _ _ hm Hn.out (SeesE.on (.inr ⟨b, off, rfl, Hr.out⟩) (on_alloc _ _)) hm Hx.out (Hrx.out.on (on_alloc _ _))).mono ?_
  rw [H0.out]
  rintro e w2 ⟨rfl, hb2⟩
  have HB2 := hid (show Below w.heap.size w w2 from bfrom (on_alloc _ _) hb2)
  have hX2 := (Box.new w N (some ⟨b, off, none⟩) n c 31).on hb2
  have HX2 := hid hX2
  have hx2 := hX2.1
  have hy2 := hX2.2
  have hz2 : w.heap.size < w2.heap.size := hX2.lt
  clear hb2 hX2
  go_wp2_with fail
  refine (sNet_any N b off n c d (some ⟨sb, so, none⟩) es xs _ Hn.out (Hr.out.on HB2.out) Hx.out (Hrx.out.on HB2.out) GG.out HV.out).mono ?_
  rintro e w3 ⟨gq, rfl, hgq, ho, hb3⟩
  have HB3 := hid (bfrom HB2.out hb3)
  have HO := hid ho
  have hgz := ho.lt
  clear hb3 ho hx2 hy2
  go_wp2
  go_loopw [10] (fun iv wr => ∃ v : Nat, v ≤ N ∧ iv = .int .i64 v ∧ Hid (∀ u : Nat, u < v → netV es xs n u = 0) ∧ wr = w3) (fun iv _ => N - (intOf iv).toNat)
  case atStart => exact ⟨0, Nat.zero_le _, rfl, hid (fun j hj => by omega), rfl⟩
  case round =>
    obtain ⟨v, hv, rfl, hE, rfl⟩ := hrel
    by_cases hlv : v < N
    · have h1 := HO.out.cellI (i := v) (by rw [netL_len]; omega)
      rw [netL_at hlv] at h1
      obtain ⟨a, ha⟩ : ∃ a, netV es xs n v = a := ⟨_, rfl⟩
      rw [ha] at h1
      have HA := hid ha
      clear ha
      by_cases h0 : a = 0
      · have h0' : (a != 0) = false := by simpa using h0
        have H00 := hid h0
        clear h0
        go_wp2
        go_roundw
        case rel =>
          refine ⟨v + 1, by omega, by go_num, hid (fun u hu => ?_), by trivial⟩
          rcases Nat.lt_or_ge u v with h | h
          · exact hE.out u h
          · obtain rfl : u = v := by omega
            rw [HA.out]; exact H00.out
        case measure => simp [intOf]; omega
      · have h0' : (a != 0) = true := by simpa using h0
        have H00 := hid h0
        clear h0
        go_wp2
        go_ret2
        refine ⟨?_, HB3.out⟩
        rw [HR.out, decide_eq_false (fun h => by
          have h2 := h.2 v hlv
          rw [Hn.out, HA.out] at h2
          exact H00.out (of_decide_eq_true h2))]
        rfl
    · obtain rfl : v = N := by omega
      have HZ := hid (show flowP zAll v es xs from fun u hu => by rw [Hn.out]; exact decide_eq_true (hE.out u hu))
      obtain ⟨wo, rfl⟩ : ∃ wo : World, wo = wr := ⟨_, rfl⟩
      go_wp2
      go_loopw [11] (fun iv wr => ∃ i : Nat, i ≤ n ∧ iv = .int .i64 i ∧ Hid (∀ j, j < i → eI xs j ≠ 0 ∧ 1 - m ≤ eI xs j ∧ eI xs j ≤ m - 1) ∧ wr = wo) (fun iv _ => n - (intOf iv).toNat)
      case atStart => exact ⟨0, Nat.zero_le _, rfl, hid (fun j hj => by omega), rfl⟩
      case round =>
        obtain ⟨i, hi, rfl, hD, rfl⟩ := hrel
        by_cases hlt : i < n
        · have hcc := Hrd.out.on HB3.out i (by have := Hx.out; omega)
          have hcb := (Hrd.out.on HB3.out).lt (by have := Hx.out; omega)
          obtain ⟨x, hxx⟩ : ∃ x, eI xs i = x := ⟨_, rfl⟩
          rw [hxx] at hcc
          have HXX := hid hxx
          clear hxx
          by_cases h1 : x = 0
          · have h1' : (x == 0) = true := by simpa using h1
            have H1 := hid h1
            clear h1
            go_wp2
            go_ret2
            refine ⟨?_, HB3.out⟩
            rw [HR.out, decide_eq_false (fun h => by have h2 := (h.1 i (by have := Hx.out; omega)).1; rw [HXX.out] at h2; exact h2 H1.out)]
            rfl
          · have h1' : (x == 0) = false := by simpa using h1
            have H1 := hid h1
            clear h1
            by_cases h2 : 1 - m ≤ x ∧ x ≤ m - 1
            · have H2 := hid h2
              clear h2
              go_wp2_with (go_at_call 33; refine (sIn_yes _ _ _ _ H2.out).mono ?_; rintro e' w' ⟨rfl, rfl⟩)
              go_roundw
              case rel =>
                refine ⟨i + 1, by omega, by go_num, hid (fun j hj => ?_), by trivial⟩
                rcases Nat.lt_or_ge j i with h | h
                · exact hD.out j h
                · obtain rfl : j = i := by omega
                  rw [HXX.out]; exact ⟨H1.out, H2.out⟩
              case measure => simp [intOf]; omega
            · have H2 := hid (show x < 1 - m ∨ m - 1 < x by omega)
              clear h2
              go_wp2_with (go_at_call 33; refine (sIn_no _ _ _ _ H2.out).mono ?_; rintro e' w' ⟨rfl, rfl⟩)
              go_ret2
              refine ⟨?_, HB3.out⟩
              rw [HR.out, decide_eq_false (fun h => by have h2 := (h.1 i (by have := Hx.out; omega)).2; rw [HXX.out] at h2; have := H2.out; omega)]
              rfl
        · obtain rfl : i = n := by omega
          go_wp2
          go_ret2
          refine ⟨?_, HB3.out⟩
          rw [HR.out, decide_eq_true ⟨fun j hj => hD.out j (by have := Hx.out; omega), HZ.out⟩]
          rfl

theorem sIsFlow_any (s : Int) (p : Option Addr) (n c : Nat) (es : List (Int × Int)) (m : Int) (q : Option Addr) (k d : Nat) (xs : List Int) (w : World) (hm : n ≤ 1048576) (hn : es.length = n) (hr : SeesE w p es) (hk9 : k ≤ 1048576) (hx : xs.length = k) (hrx : SeesI w q xs) :
    Calls Tryd.prog 8 #[.agg #[.int .i64 s, .slice p n c], .int .i64 m, .slice q k d] w fun e' w' => e' = .returned (.tuple #[.bool (fIsFlow s es m xs).1, .int .i64 (fIsFlow s es m xs).2]) ∧ Below w.heap.size w w' := by
  unfold fIsFlow
  by_cases h0 : flCode s es m 0 (m - 1) xs = 0
  · rw [if_pos h0]
    obtain ⟨g, _, hl, _⟩ := flCode_of h0
    obtain ⟨N, rfl⟩ : ∃ N : Nat, s = N := ⟨_, (Int.toNat_of_nonneg (by have := g.1.1.1; omega)).symm⟩
    rw [Int.toNat_natCast]
    obtain ⟨b, off, rfl, rd⟩ := isG_sees g hr
    obtain rfl : k = n := by omega
    exact sIsFlow_yes N b off k c d q es m xs w hm hn rd hx hrx h0
  · rw [if_neg h0]
    exact sIsFlow_no s p q n c k d es m xs w hm hn hr hk9 hx hrx h0

theorem sIsNowhereZero_any (s : Int) (p : Option Addr) (n c : Nat) (es : List (Int × Int)) (m : Int) (q : Option Addr) (k d : Nat) (xs : List Int) (w : World) (hm : n ≤ 1048576) (hn : es.length = n) (hr : SeesE w p es) (hk9 : k ≤ 1048576) (hx : xs.length = k) (hrx : SeesI w q xs) :
    Calls Tryd.prog 14 #[.agg #[.int .i64 s, .slice p n c], .int .i64 m, .slice q k d] w fun e' w' => e' = .returned (.tuple #[.bool (fIsNowhereZero s es m xs).1, .int .i64 (fIsNowhereZero s es m xs).2]) ∧ Below w.heap.size w w' := by
  unfold fIsNowhereZero
  by_cases h0 : flCode s es m 0 (m - 1) xs = 0
  · rw [if_pos h0]
    obtain ⟨g, _, hl, _⟩ := flCode_of h0
    obtain ⟨N, rfl⟩ : ∃ N : Nat, s = N := ⟨_, (Int.toNat_of_nonneg (by have := g.1.1.1; omega)).symm⟩
    rw [Int.toNat_natCast]
    obtain ⟨b, off, rfl, rd⟩ := isG_sees g hr
    obtain rfl : k = n := by omega
    exact sIsNowhereZero_yes N b off k c d q es m xs w hm hn rd hx hrx h0
  · rw [if_neg h0]
    exact sIsNowhereZero_no s p q n c k d es m xs w hm hn hr hk9 hx hrx h0

theorem sIsWholeFlow_any (s : Int) (p : Option Addr) (n c : Nat) (es : List (Int × Int)) (m : Int) (q : Option Addr) (k d : Nat) (xs : List Int) (w : World) (hm : n ≤ 1048576) (hn : es.length = n) (hr : SeesE w p es) (hk9 : k ≤ 1048576) (hx : xs.length = k) (hrx : SeesI w q xs) :
    Calls Tryd.prog 16 #[.agg #[.int .i64 s, .slice p n c], .int .i64 m, .slice q k d] w fun e' w' => e' = .returned (.tuple #[.bool (fIsWholeFlow s es m xs).1, .int .i64 (fIsWholeFlow s es m xs).2]) ∧ Below w.heap.size w w' := by
  unfold fIsWholeFlow
  by_cases h0 : flCode s es m (-1000) 1000 xs = 0
  · rw [if_pos h0]
    obtain ⟨g, _, hl, _⟩ := flCode_of h0
    obtain ⟨N, rfl⟩ : ∃ N : Nat, s = N := ⟨_, (Int.toNat_of_nonneg (by have := g.1.1.1; omega)).symm⟩
    rw [Int.toNat_natCast]
    obtain ⟨b, off, rfl, rd⟩ := isG_sees g hr
    obtain rfl : k = n := by omega
    exact sIsWholeFlow_yes N b off k c d q es m xs w hm hn rd hx hrx h0
  · rw [if_neg h0]
    exact sIsWholeFlow_no s p q n c k d es m xs w hm hn hr hk9 hx hrx h0

end Go.Proofs.YthncgpbgffbpgaaDoor
