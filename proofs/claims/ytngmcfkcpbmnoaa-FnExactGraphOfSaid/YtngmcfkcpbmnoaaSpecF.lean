/- The model's GraphOf, and the program's, in one word. -/
import Derived.Test.YtngmcfkcpbmnoaaSpecE
import Derived.Test.YtngmcfkcpbmnoaaLawsD
import Derived.Test.YtngmcfkcpbmnoaaImplF
namespace Go.Proofs.Ytngmcfkcpbmnoaa
open Go.RowKit

theorem sSort_fresh (b off m c : Nat) (es : List (Int × Int)) (w : World) (hm : m ≤ 1048576) (hlen : es.length = m) (hr : ReadsE w b off es) :
    Calls Try.prog 104 #[.slice (some ⟨b, off, none⟩) m c] w fun e w' => ∃ q cap, e = .returned (.slice q m cap) ∧ FreshE w.heap.size w' q m cap (sortE es) ∧ Below w.heap.size w w' := by
  refine (sSort_any b off m c es w hm hlen hr).mono fun e w' ⟨v, he, ho, hb⟩ => ?_
  rcases ho.2 with ⟨rfl, h0⟩ | ⟨g, cap, cur, rfl, _⟩
  · subst h0
    exact ⟨none, 0, he, ⟨ho, by rw [sortE_length]; exact hlen⟩, hb⟩
  · exact ⟨some ⟨g, 0, none⟩, cap, he, ⟨ho, by rw [sortE_length]; exact hlen⟩, hb⟩

set_option maxRecDepth 100000 in
set_option maxHeartbeats 1000000 in
theorem sMade_any (s : Int) (b off m c : Nat) (es : List (Int × Int)) (w : World) (hm : m ≤ 1048576) (hlen : es.length = m) (hr : ReadsE w b off es) :
    Calls Try.prog 62 #[.int .i64 s, .slice (some ⟨b, off, none⟩) m c] w fun e w' => ∃ q cap, e = .returned (.agg #[.int .i64 s, .slice q m cap]) ∧ FreshE w.heap.size w' q m cap (sortE es) ∧ Below w.heap.size w w' := by
  have Hl := hid hlen
  have Hr := hid hr
  have Hm := hid hm
  clear hlen hr hm
  go_enter Try.func62, Try.ntmps62
  go_wp2_with (go_at_call 104; refine (sSort_fresh _ _ _ _ es _ Hm.out Hl.out (Hr.out.on (on_alloc _ _))).mono ?_; rintro e w2 ⟨q, cap, rfl, hf2, hb2⟩; have HF2 := hid hf2; clear hf2; obtain ⟨hc, hf⟩ := bcells hb2)
  have hbw := bfrom (w := w) (by go_grown) hb2
  have hz : w.heap.size < w2.heap.size := by have h := hb2.size; simp at h; omega
  refine bodyPost_ret (v := .agg #[.int .i64 s, .slice q m cap]) (by simp [results, Try.results62, go_sem, hc]) rfl ⟨q, cap, rfl, ?_, by go_grown⟩
  exact ((HF2.out.far (by simp) _).far (by simp) _).less (by simp)

/-- What GraphOf makes: the size, the edges and the code. -/
def gofF (s : Int) (es : List (Int × Int)) : Int × List (Int × Int) × Int := if Ends s es then (if Cubic s.toNat es then (s, sortE es, 0) else (0, [], 5)) else (0, [], 2)

set_option maxRecDepth 100000 in
set_option maxHeartbeats 1000000 in
theorem sGraphOf_ends (n : Int) (p : Option Addr) (m c : Nat) (es : List (Int × Int)) (w : World) (hm : m ≤ 9223372036854775807) (hlen : es.length = m) (hr : SeesE w p es) (h : ¬ Ends n es) :
    Calls Try.prog 22 #[.int .i64 n, .slice p m c] w fun e w' => e = .returned (.tuple #[.agg #[.int .i64 0, .slice none 0 0], .int .i64 2]) ∧ Below w.heap.size w w' := by
  have Hl := hid hlen
  have Hr := hid hr
  have H := hid h
  clear hlen hr h
  go_enter Try.func22, Try.ntmps22
  go_wp2_with (go_at_call 60; refine (sEnds_any _ _ _ _ es _ hm Hl.out (Hr.out.alloc _)).mono ?_; rw [if_neg H.out]; rintro e w2 ⟨rfl, hb2⟩; obtain ⟨hc, hf⟩ := bcells hb2)
  have hbw := bfrom (w := w) (by go_grown) hb2
  refine bodyPost_ret (v := .tuple #[.agg #[.int .i64 0, .slice none 0 0], .int .i64 2]) (by simp [results, Try.results22, go_sem, hc]) rfl ⟨rfl, by go_grown⟩

set_option maxRecDepth 100000 in
set_option maxHeartbeats 1000000 in
theorem sGraphOf_cubic (N b off m c : Nat) (es : List (Int × Int)) (w : World) (hm : m ≤ 9223372036854775807) (hlen : es.length = m) (hr : ReadsE w b off es) (h : Ends N es) (hC : ¬ Cubic N es) :
    Calls Try.prog 22 #[.int .i64 N, .slice (some ⟨b, off, none⟩) m c] w fun e w' => e = .returned (.tuple #[.agg #[.int .i64 0, .slice none 0 0], .int .i64 5]) ∧ Below w.heap.size w w' := by
  have Hl := hid hlen
  have Hr := hid hr
  have H := hid h
  have HC := hid hC
  clear hlen hr h hC
  go_enter Try.func22, Try.ntmps22
  go_wp2_with (first | (go_at_call 60; refine (sEnds_any _ _ _ _ es _ hm Hl.out (SeesE.alloc (.inr ⟨b, off, rfl, Hr.out⟩) _)).mono ?_; rw [if_pos H.out]; rintro e w2 ⟨rfl, hb2⟩) | (go_at_call 61; refine (sCubic_any _ _ _ _ _ es _ H.out Hl.out ((Hr.out.on ((Below.refl _ _).alloc (Nat.le_refl _) _)).on hb2)).mono ?_; rw [decide_eq_false HC.out]; rintro e w3 ⟨rfl, hb3⟩; have hb4 := bfrom hb2 hb3; obtain ⟨hc, hf⟩ := bcells hb4))
  have hbw := bfrom (w := w) (by go_grown) hb4
  refine bodyPost_ret (v := .tuple #[.agg #[.int .i64 0, .slice none 0 0], .int .i64 5]) (by simp [results, Try.results22, go_sem, hc]) rfl ⟨rfl, by go_grown⟩

set_option maxRecDepth 100000 in
set_option maxHeartbeats 1000000 in
theorem sGraphOf_yes (N b off m c : Nat) (es : List (Int × Int)) (w : World) (hm : m ≤ 1048576) (hlen : es.length = m) (hr : ReadsE w b off es) (h : Ends N es) (hC : Cubic N es) :
    Calls Try.prog 22 #[.int .i64 N, .slice (some ⟨b, off, none⟩) m c] w fun e w' => ∃ q cap, e = .returned (.tuple #[.agg #[.int .i64 N, .slice q m cap], .int .i64 0]) ∧ FreshE w.heap.size w' q m cap (sortE es) ∧ Below w.heap.size w w' := by
  have Hl := hid hlen
  have Hr := hid hr
  have H := hid h
  have HC := hid hC
  have Hm := hid hm
  clear hlen hr h hC hm
  go_enter Try.func22, Try.ntmps22
  go_wp2_with (first | (go_at_call 60; refine (sEnds_any _ _ _ _ es _ (by have := Hm.out; omega) Hl.out (SeesE.alloc (.inr ⟨b, off, rfl, Hr.out⟩) _)).mono ?_; rw [if_pos H.out]; rintro e w2 ⟨rfl, hb2⟩) | (go_at_call 61; refine (sCubic_any _ _ _ _ _ es _ H.out Hl.out ((Hr.out.on ((Below.refl _ _).alloc (Nat.le_refl _) _)).on hb2)).mono ?_; rw [decide_eq_true HC.out]; rintro e w3 ⟨rfl, hb3⟩) | (go_at_call 62; refine (sMade_any _ _ _ _ _ es _ Hm.out Hl.out (((Hr.out.on ((Below.refl _ _).alloc (Nat.le_refl _) _)).on hb2).on hb3)).mono ?_; rintro e w4 ⟨q, cap, rfl, hf4, hb4⟩; have HF4 := hid hf4; clear hf4; have hb5 := bfrom (bfrom hb2 hb3) hb4; obtain ⟨hc, hf⟩ := bcells hb5))
  have hbw := bfrom (w := w) (by go_grown) hb5
  have hz3 : w.heap.size < w3.heap.size := by have h := (bfrom hb2 hb3).size; simp at h; omega
  refine bodyPost_ret (v := .tuple #[.agg #[.int .i64 N, .slice q m cap], .int .i64 0]) (by simp [results, Try.results22, go_sem, hc]) rfl ⟨q, cap, rfl, ?_, by go_grown⟩
  exact ((HF4.out.far (by simpa using hz3) _).far (by simpa using hz3) _).less (by omega)

theorem sGraphOf_any (s : Int) (p : Option Addr) (m c : Nat) (es : List (Int × Int)) (w : World) (hm : m ≤ 1048576) (hlen : es.length = m) (hr : SeesE w p es) :
    Calls Try.prog 22 #[.int .i64 s, .slice p m c] w fun e w' => ∃ q cap, e = .returned (.tuple #[.agg #[.int .i64 (gofF s es).1, .slice q (gofF s es).2.1.length cap], .int .i64 (gofF s es).2.2]) ∧ FreshE w.heap.size w' q (gofF s es).2.1.length cap (gofF s es).2.1 ∧ Below w.heap.size w w' := by
  unfold gofF
  by_cases h : Ends s es
  · rw [if_pos h]
    obtain ⟨N, rfl⟩ : ∃ N : Nat, s = N := ⟨_, (Int.toNat_of_nonneg (by have := h.1.1; omega)).symm⟩
    rcases hr with rfl | ⟨b, off, rfl, hr⟩
    · exact absurd h.1.2.2.2 (by have := h.1.1; simp; omega)
    · rw [Int.toNat_natCast]
      by_cases hC : Cubic N es
      · rw [if_pos hC]
        refine (sGraphOf_yes N b off m c es w hm hlen hr h hC).mono fun e w' ⟨q, cap, he, hf, hb⟩ => ⟨q, cap, ?_, ?_, hb⟩
        · rw [he, ← hlen, ← sortE_length es]
        · show FreshE _ _ _ (sortE es).length _ _
          rw [sortE_length, hlen]; exact hf
      · rw [if_neg hC]
        exact (sGraphOf_cubic N b off m c es w (by omega) hlen hr h hC).mono fun e w' ⟨he, hb⟩ => ⟨none, 0, he, FreshE.nil _ _, hb⟩
  · rw [if_neg h]
    exact (sGraphOf_ends s p m c es w (by omega) hlen hr h).mono fun e w' ⟨he, hb⟩ => ⟨none, 0, he, FreshE.nil _ _, hb⟩

theorem iGraphOf_any (s : Int) (p : Option Addr) (m c : Nat) (es : List (Int × Int)) (w : World) (hm : m ≤ 1048576) (hlen : es.length = m) (hr : SeesE w p es) :
    Calls Try.prog 24 #[.int .i64 s, .slice p m c] w fun e w' => ∃ q cap, e = .returned (.tuple #[.agg #[.int .i64 (gofF s es).1, .slice q (gofF s es).2.1.length cap], .int .i64 (gofF s es).2.2]) ∧ FreshE w.heap.size w' q (gofF s es).2.1.length cap (gofF s es).2.1 ∧ Below w.heap.size w w' := by
  unfold gofF
  by_cases h : Ends s es
  · rw [if_pos h]
    obtain ⟨N, rfl⟩ : ∃ N : Nat, s = N := ⟨_, (Int.toNat_of_nonneg (by have := h.1.1; omega)).symm⟩
    rcases hr with rfl | ⟨b, off, rfl, hr⟩
    · exact absurd h.1.2.2.2 (by have := h.1.1; simp; omega)
    · rw [Int.toNat_natCast]
      by_cases hC : Cubic N es
      · rw [if_pos hC]
        refine (iGraphOf_yes N b off m c es w hm hlen hr h hC).mono fun e w' ⟨g, he, hg, ho, hb⟩ => ⟨some ⟨g, 0, none⟩, m, ?_, ?_, hb⟩
        · rw [he, ← hlen, ← sortE_length es]
        · show FreshE _ _ _ (sortE es).length _ _
          rw [sortE_length, hlen]; exact FreshE.of_own ho (by rw [sortE_length]; exact hlen) hg
      · rw [if_neg hC]
        exact (iGraphOf_cubic N b off m c es w (by omega) hlen hr h hC).mono fun e w' ⟨he, hb⟩ => ⟨none, 0, he, FreshE.nil _ _, hb⟩
  · rw [if_neg h]
    exact (iGraphOf_ends s p m c es w (by omega) hlen hr h).mono fun e w' ⟨he, hb⟩ => ⟨none, 0, he, FreshE.nil _ _, hb⟩

theorem gofF_len (s : Int) (es : List (Int × Int)) (h : es.length ≤ 1048576) : (gofF s es).2.1.length ≤ 1048576 := by
  unfold gofF
  split
  · split
    · show (sortE es).length ≤ _
      rw [sortE_length]; exact h
    · simp
  · simp

end Go.Proofs.Ytngmcfkcpbmnoaa
