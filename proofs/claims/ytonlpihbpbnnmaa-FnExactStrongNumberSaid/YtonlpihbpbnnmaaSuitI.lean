/- Numbers on a circle in the program: areApart, clashes, suits. -/
import Derived.Test.YtonlpihbpbnnmaaNearA
import Derived.Test.YtonlpihbpbnnmaaLists
import Derived.Test.YtonlpihbpbnnmaaBelow
import Derived.Deep.RegionWith
import Derived.StillTailTactics
import Derived.Laws.ShiftsVar
namespace Go.Proofs.Ytonlpihbpbnnmaa
open Go.RowKit

/-- A circle in a block of its own. -/
def Circ (w : World) (B : Nat) (k d : Int) : Prop := w.heap[B]? = some (.cells #[.int .i64 k, .int .i64 d] 74 (0, 0))
section
variable {w w' : World} {B : Nat} {k d : Int}
theorem Circ.on (h : Circ w B k d) (hb : Below w.heap.size w w') : Circ w' B k d := (hb.block B (Array.getElem?_eq_some_iff.1 h).1).trans h
theorem Circ.lt (h : Circ w B k d) : B < w.heap.size := (Array.getElem?_eq_some_iff.1 h).1
theorem Circ.new (w : World) (k d : Int) : Circ (w.alloc (.cells #[.int .i64 k, .int .i64 d] 74)) w.heap.size k d := heap_alloc_new w _
theorem Circ.c0 (h : Circ w B k d) : w.cell? ⟨B, 0, none⟩ = some (.int .i64 k) := cell_of_row w B 0 _ _ _ h
theorem Circ.c1 (h : Circ w B k d) : w.cell? ⟨B, 1, none⟩ = some (.int .i64 d) := cell_of_row w B 1 _ _ _ h
end

set_option maxRecDepth 100000 in
set_option maxHeartbeats 4000000 in
theorem iApart_any (k d x y : Int) (w : World) (hk : 0 ≤ k ∧ k ≤ 1000) (hd : 0 ≤ d ∧ d ≤ 1000) (hx : 0 ≤ x ∧ x ≤ 1000) (hy : 0 ≤ y ∧ y ≤ 1000) :
    Calls Try.prog 152 #[.agg #[.int .i64 k, .int .i64 d], .int .i64 x, .int .i64 y] w fun e' w' => e' = .returned (.bool (apartB k d x y)) ∧ Below w.heap.size w w' := by
  obtain ⟨z, hz⟩ : ∃ z, max x y - min x y = z := ⟨_, rfl⟩
  have hz2 : 0 ≤ z ∧ z ≤ 1000 := by omega
  obtain ⟨r, hr⟩ : ∃ r, apartB k d x y = r := ⟨_, rfl⟩
  rw [hr]
  have HR := hid (show (decide (d ≤ z) && decide (z ≤ k - d)) = r by rw [← hr, ← hz]; rfl)
  have HZ := hid (show (x ≤ y → z = y - x) ∧ (y ≤ x → z = x - y) by omega)
  clear hr hz
  have HB := hid (on_alloc w (.cells #[.int .i64 k, .int .i64 d] 74))
  go_enter Try.func152, Try.ntmps152
  go_wp2_with fail
  all_goals
    go_ret
    refine ⟨congrArg (fun b => Ending.returned (Value.bool b)) ?_, HB.out⟩
    rw [← HR.out, Bool.eq_iff_iff]
    simp only [Bool.and_eq_true, decide_eq_true_eq, Bool.false_eq_true]
    first
      | (have hz3 := HZ.out.1 (by omega); first | omega | (simp only [false_iff]; omega))
      | (have hz3 := HZ.out.2 (by omega); first | omega | (simp only [false_iff]; omega))

theorem wrap_pow {T : Nat} (h : T < 64) : IntKind.u64.wrap (2 ^ T) = ((2 ^ T : Nat) : Int) := by
  have h2 : (2 : Nat) ^ T < 2 ^ 64 := Nat.pow_lt_pow_right (by omega) h
  rw [show (2 : Int) ^ T = ((2 ^ T : Nat) : Int) by simp, IntKind.wrap_u64]
  obtain ⟨P, hP⟩ : ∃ P : Nat, 2 ^ T = P := ⟨_, rfl⟩
  rw [hP] at h2 ⊢
  exact Int.emod_eq_of_lt (by omega) (by omega)

/-- What clashes with a number: the place of one that is not apart from it, if there is one. -/
def ClP (k d : Int) (x : Int) (xs R : List Int) (r : Nat) : Prop :=
  (r = 0 ∧ ∀ j, j < R.length → apartB k d x (eI xs (eI R j).toNat) = true) ∨ ∃ j, j < R.length ∧ r = 2 ^ (eI R j).toNat ∧ apartB k d x (eI xs (eI R j).toNat) = false

set_option maxRecDepth 100000 in
set_option maxHeartbeats 4000000 in
theorem iClash_any (k d x : Int) (q qr : Option Addr) (n c m mc : Nat) (xs R : List Int) (w : World) (hk : 0 ≤ k ∧ k ≤ 1000) (hd : 0 ≤ d ∧ d ≤ 1000) (hx : 0 ≤ x ∧ x < k) (hn : xs.length = n) (hn2 : n ≤ 60) (hr : SeesI w q xs) (hi : ∀ i, i < n → 0 ≤ eI xs i ∧ eI xs i < k)
    (hm : R.length = m) (hm2 : m ≤ 60) (hrr : SeesI w qr R) (hR : ∀ j, j < m → 0 ≤ eI R j ∧ eI R j < n) :
    Calls Try.prog 117 #[.agg #[.int .i64 k, .int .i64 d], .int .i64 x, .slice q n c, .slice qr m mc] w fun e' w' => (∃ r : Nat, e' = .returned (.int .u64 r) ∧ ClP k d x xs R r) ∧ Below w.heap.size w w' := by
  have Hn := hid hn
  have Hr := hid hr
  have Hi := hid hi
  have Hm := hid hm
  have Hrr := hid hrr
  have HR := hid hR
  have HX := hid (Circ.new w k d)
  have HB1 := hid (on_alloc w (.cells #[.int .i64 k, .int .i64 d] 74))
  clear hn hr hi hm hrr hR
  go_enter Try.func117, Try.ntmps117
  go_wp2
  obtain ⟨w2, hw2⟩ : ∃ w2, w2 = w.alloc (.cells #[.int .i64 k, .int .i64 d] 74) := ⟨_, rfl⟩
  rw [← hw2] at HX HB1 ⊢
  clear hw2
  go_loopw [13] (fun i wr => ∃ j : Nat, j ≤ m ∧ i = .int .i64 j ∧ Hid (∀ t, t < j → apartB k d x (eI xs (eI R t).toNat) = true) ∧ Hid (Below w2.heap.size w2 wr)) (fun i _ => m - (intOf i).toNat)
  case atStart => exact ⟨0, Nat.zero_le _, rfl, hid (fun t ht => absurd ht (by omega)), hid (Below.refl _ _)⟩
  case round =>
    obtain ⟨j, hj, rfl, hE, hB⟩ := hrel
    obtain ⟨wi, rfl⟩ : ∃ wi : World, wi = wr := ⟨_, rfl⟩
    have HBw := hid (bfrom HB1.out hB.out)
    by_cases hlt : j < m
    · have hlt' : (j : Int) < (m : Int) := by omega
      obtain ⟨h0, hT⟩ := HR.out j hlt
      obtain ⟨T, hTT⟩ : ∃ T : Nat, eI R j = T := ⟨_, (Int.toNat_of_nonneg h0).symm⟩
      rw [hTT] at hT
      have hTn : T < n := by omega
      obtain ⟨b1, o1, rfl, hrd1⟩ : ∃ b off, qr = some ⟨b, off, none⟩ ∧ ReadsI wi b off R := by
        rcases Hrr.out.on HBw.out with h | h
        · have := Hm.out; rw [h] at this; simp at this; omega
        · exact h
      obtain ⟨b2, o2, rfl, hrd2⟩ : ∃ b off, q = some ⟨b, off, none⟩ ∧ ReadsI wi b off xs := by
        rcases Hr.out.on HBw.out with h | h
        · have := Hn.out; rw [h] at this; simp at this; omega
        · exact h
      have k1 := hrd1 j (by have := Hm.out; omega)
      have k2 := hrd2 T (by have := Hn.out; omega)
      rw [hTT] at k1
      obtain ⟨y, hy⟩ : ∃ y, eI xs T = y := ⟨_, rfl⟩
      have hy2 := Hi.out T hTn
      rw [hy] at k2 hy2
      have k3 := (HX.out.on hB.out).c0
      have k4 := (HX.out.on hB.out).c1
      have HTT := hid hTT
      have HY := hid hy
      have hy3 : 0 ≤ y ∧ y ≤ 1000 := by omega
      have hx3 : 0 ≤ x ∧ x ≤ 1000 := by omega
      clear hTT hy hrd1 hrd2 h0
      cases ha : apartB k d x y
      · go_wp2
        go_region_with (go_at_call 152; refine (iApart_any k d x y _ hk hd hx3 hy3).mono ?_; rw [ha]; rintro e' w5 ⟨rfl, hb5⟩)
        all_goals
          have HB5 := hid (show Below w2.heap.size w2 w5 from bfrom hB.out ⟨hb5.os, hb5.tape, hb5.output, hb5.size, hb5.block⟩)
          clear hb5
          go_wp2
          go_ret
          refine ⟨⟨2 ^ T, by rw [← wrap_pow (show T < 64 by omega)]; rfl, .inr ⟨j, by rw [Hm.out]; exact hlt, by rw [HTT.out, Int.toNat_natCast], by rw [HTT.out, Int.toNat_natCast, HY.out]; exact ha⟩⟩, bfrom HB1.out HB5.out⟩
      · go_wp2
        go_region_with (go_at_call 152; refine (iApart_any k d x y _ hk hd hx3 hy3).mono ?_; rw [ha]; rintro e' w5 ⟨rfl, hb5⟩)
        all_goals
          have HB5 := hid (show Below w2.heap.size w2 w5 from bfrom hB.out ⟨hb5.os, hb5.tape, hb5.output, hb5.size, hb5.block⟩)
          clear hb5
          go_wp2
          go_roundw
          case rel =>
            refine ⟨j + 1, by omega, by go_num, hid (fun t ht => ?_), by first | exact HB5 | exact hid (bdn.mpr HB5.out)⟩
            rcases Nat.lt_or_ge t j with h | h
            · exact hE.out t h
            · obtain rfl : t = j := by omega
              rw [HTT.out, Int.toNat_natCast, HY.out]
              exact ha
          case measure => simp [intOf]; omega
    · have hjm := hid (show j = m by omega)
      go_wp2
      go_ret
      exact ⟨⟨0, rfl, .inl ⟨rfl, fun t ht => hE.out t (by rw [hjm.out, ← Hm.out]; exact ht)⟩⟩, HBw.out⟩

/-- The rows of things that meet. -/
theorem row_entry {M : Nat → Nat → Bool} {n i : Nat} (hi : i < n) : ∀ j, j < (lI (rowsM M n) i).length → ∃ t : Nat, eI (lI (rowsM M n) i) j = t ∧ t < i ∧ M i t = true := fun j hj => by
  have h1 : lI (rowsM M n) i = rowL M i := by
    unfold lI rowsM
    rw [List.getD_eq_getElem?_getD, List.getElem?_map, List.getElem?_range hi]
    rfl
  rw [h1] at hj ⊢
  have h2 := List.getElem_mem hj
  rw [← eI_lt hj] at h2
  obtain ⟨t, h3, h4, h5⟩ := rowU_mem.1 (show eI (rowL M i) j ∈ rowU M i i from h2)
  exact ⟨t, h5, h3, h4⟩
theorem row_has {M : Nat → Nat → Bool} {n i t : Nat} (hi : i < n) (ht : t < i) (hM : M i t = true) : ∃ j, j < (lI (rowsM M n) i).length ∧ eI (lI (rowsM M n) i) j = t := by
  have h1 : lI (rowsM M n) i = rowL M i := by
    unfold lI rowsM
    rw [List.getD_eq_getElem?_getD, List.getElem?_map, List.getElem?_range hi]
    rfl
  rw [h1]
  obtain ⟨j, hj, e⟩ := List.getElem_of_mem (show (t : Int) ∈ rowL M i from rowU_mem.2 ⟨t, ht, hM, rfl⟩)
  exact ⟨j, hj, by rw [eI_lt hj, e]⟩
theorem row_len {M : Nat → Nat → Bool} {n i : Nat} (hi : i < n) : (lI (rowsM M n) i).length ≤ i := by
  have h1 : lI (rowsM M n) i = rowL M i := by
    unfold lI rowsM
    rw [List.getD_eq_getElem?_getD, List.getElem?_map, List.getElem?_range hi]
    rfl
  rw [h1]
  exact rowU_len M i i
/-- A clash with the row of a number. -/
theorem clash_fit {k d x : Int} {M : Nat → Nat → Bool} {n i r : Nat} {xs : List Int} (hi : i < n) (h : ClP k d x xs (lI (rowsM M n) i) r) : (r = 0 ∧ fitB k d M xs i x = true) ∨ ∃ t, t < i ∧ M i t = true ∧ r = 2 ^ t ∧ apartB k d x (eI xs t) = false ∧ fitB k d M xs i x = false := by
  rcases h with ⟨h1, h2⟩ | ⟨j, h1, h2, h3⟩
  · refine .inl ⟨h1, ?_⟩
    unfold fitB
    refine decide_eq_true fun t ht hM => ?_
    obtain ⟨j, hj, e⟩ := row_has hi ht hM
    have h4 := h2 j hj
    rw [e, Int.toNat_natCast] at h4
    exact h4
  · obtain ⟨t, h4, h5, h6⟩ := row_entry hi j h1
    rw [h4, Int.toNat_natCast] at h2 h3
    refine .inr ⟨t, h5, h6, h2, h3, ?_⟩
    unfold fitB
    exact decide_eq_false fun h => by rw [h t h5 h6] at h3; cases h3

set_option maxRecDepth 100000 in
set_option maxHeartbeats 4000000 in
theorem iSuits_any (k d : Int) (M : Nat → Nat → Bool) (q qr : Option Addr) (n c mc : Nat) (xs : List Int) (w : World) (hk : 0 ≤ k ∧ k ≤ 1000) (hd : 0 ≤ d ∧ d ≤ 1000) (hn : xs.length = n) (hn2 : n ≤ 60) (h1n : 1 ≤ n) (hr : SeesI w q xs) (hrr : SeesL w qr (rowsM M n)) :
    Calls Try.prog 64 #[.agg #[.int .i64 k, .int .i64 d], .slice qr n mc, .slice q n c] w fun e' w' => e' = .returned (.bool (decide (suitP k d M xs))) ∧ Below w.heap.size w w' := by
  obtain ⟨bq, oq, rfl, hrd⟩ : ∃ b off, q = some ⟨b, off, none⟩ ∧ ReadsI w b off xs := by
    rcases hr with h | h
    · rw [h] at hn; simp at hn; omega
    · exact h
  obtain ⟨br, orr, rfl, hrl⟩ : ∃ b off, qr = some ⟨b, off, none⟩ ∧ ReadsL w b off (rowsM M n) := by
    rcases hrr with h | h
    · have := rowsM_len M n; rw [h] at this; simp at this; omega
    · exact h
  obtain ⟨r, hR⟩ : ∃ r, decide (suitP k d M xs) = r := ⟨_, rfl⟩
  rw [hR]
  have HR := hid hR
  have Hn := hid hn
  have Hrd := hid hrd
  have Hrl := hid hrl
  have HX := hid (Circ.new w k d)
  have HB1 := hid (on_alloc w (.cells #[.int .i64 k, .int .i64 d] 74))
  have hm9 : n ≤ 1048576 := by omega
  obtain ⟨u, hu⟩ : ∃ u, decide (∀ i, i < n → 0 ≤ eI xs i ∧ eI xs i < k) = u := ⟨_, rfl⟩
  have HU := hid hu
  clear hR hn hr hrr hrd hrl hu
  go_enter Try.func64, Try.ntmps64
  obtain ⟨w2, hw2⟩ : ∃ w2, w2 = w.alloc (.cells #[.int .i64 k, .int .i64 d] 74) := ⟨_, rfl⟩
  have hx0 := HX.out.c0
  go_wp2_with fail
  rw [← hw2] at HX HB1 ⊢
  clear hw2 hx0
  refine (iAreBelow_any k bq oq n c xs w2 Hn.out hm9 (Hrd.out.on HB1.out)).mono ?_
  rw [HU.out]
  rintro e' w3 ⟨rfl, rfl⟩
  cases u
  · have HF := hid (show r = false by
      rw [← HR.out]
      exact decide_eq_false (fun h => (of_decide_eq_false HU.out) (by have h1 := h.1; rw [Hn.out] at h1; exact h1)))
    go_wp2
    go_ret
    rw [HF.out]
    exact ⟨rfl, HB1.out⟩
  · have HI := hid (of_decide_eq_true HU.out)
    go_wp2
    go_loopw [16] (fun i wr => ∃ j : Nat, j ≤ n ∧ i = .int .i64 j ∧ Hid (∀ t, t < j → fitB k d M xs t (eI xs t) = true) ∧ Hid (Below w3.heap.size w3 wr)) (fun i _ => n - (intOf i).toNat)
    case atStart => exact ⟨0, Nat.zero_le _, rfl, hid (fun t ht => absurd ht (by omega)), hid (Below.refl _ _)⟩
    case round =>
      obtain ⟨j, hj, rfl, hE, hB⟩ := hrel
      obtain ⟨wi, rfl⟩ : ∃ wi : World, wi = wr := ⟨_, rfl⟩
      have HBw := hid (bfrom HB1.out hB.out)
      by_cases hlt : j < n
      · have hlt' : (j : Int) < (n : Int) := by omega
        have k1 := Hrd.out.on HBw.out j (by rw [Hn.out]; exact hlt)
        obtain ⟨x, hx⟩ : ∃ x, eI xs j = x := ⟨_, rfl⟩
        have hx2 := HI.out j hlt
        rw [hx] at k1 hx2
        obtain ⟨qj, cj, k2, hsj⟩ := Hrl.out.on HBw.out j (by rw [rowsM_len]; exact hlt)
        obtain ⟨l, hl⟩ : ∃ l, (lI (rowsM M n) j).length = l := ⟨_, rfl⟩
        rw [hl] at k2
        have hl60 : l ≤ 60 := by have := row_len (M := M) hlt; omega
        have k3 := (HX.out.on hB.out).c0
        have k4 := (HX.out.on hB.out).c1
        have HXX := hid hx
        have HSJ := hid hsj
        have HLl := hid hl
        have HEn := hid (fun t (ht : t < l) => show 0 ≤ eI (lI (rowsM M n) j) t ∧ eI (lI (rowsM M n) j) t < n by
          obtain ⟨y, h1, h2, _⟩ := row_entry (M := M) hlt t (by rw [hl]; exact ht)
          rw [h1]; omega)
        clear hx hsj hl
        go_wp2
        go_still_tail 7, (by kernel_rfl)
        go_wp2_with fail
        refine (iClash_any k d x _ qj n c l cj xs (lI (rowsM M n) j) _ hk hd hx2 Hn.out hn2 (.inr ⟨bq, oq, rfl, Hrd.out.on (bfrom HBw.out (Below.refl _ _).drew)⟩) HI.out HLl.out hl60 (HSJ.out.on (Below.refl _ _).drew) HEn.out).mono ?_
        rintro e' w5 ⟨⟨y, rfl, hcl⟩, hb5⟩
        have HB5 := hid (show Below w3.heap.size w3 w5 from bfrom hB.out ⟨hb5.os, hb5.tape, hb5.output, hb5.size, hb5.block⟩)
        have HCl := hid (clash_fit hlt hcl)
        clear hb5 hcl
        by_cases hy : y = 0
        · subst hy
          go_wp2
          go_roundw
          case rel =>
            refine ⟨j + 1, by omega, by go_num, hid (fun t ht => ?_), HB5⟩
            rcases Nat.lt_or_ge t j with h | h
            · exact hE.out t h
            · obtain rfl : t = j := by omega
              rw [HXX.out]
              rcases HCl.out with h | ⟨s, _, _, h, _⟩
              · exact h.2
              · exact absurd h (Nat.ne_of_lt (Nat.two_pow_pos s))
          case measure => simp [intOf]; omega
        · have hy' : ((y : Int) != 0) = true := by simpa using hy
          have HF := hid (show r = false by
            rw [← HR.out]
            refine decide_eq_false (fun h => ?_)
            rcases HCl.out with h1 | ⟨s, _, _, _, _, h1⟩
            · exact hy h1.1
            · have h2 := (suit_fit.1 h).2 j (by rw [Hn.out]; exact hlt)
              rw [HXX.out, h1] at h2
              cases h2)
          go_wp2
          go_ret
          rw [HF.out]
          exact ⟨rfl, bfrom HB1.out HB5.out⟩
      · have HF := hid (show r = true by
          rw [← HR.out]
          exact decide_eq_true (suit_fit.2 ⟨fun i hi => HI.out i (by rw [← Hn.out]; exact hi), fun i hi => hE.out i (by have := Hn.out; omega)⟩))
        go_wp2
        go_ret
        rw [HF.out]
        exact ⟨rfl, HBw.out⟩

end Go.Proofs.Ytonlpihbpbnnmaa
