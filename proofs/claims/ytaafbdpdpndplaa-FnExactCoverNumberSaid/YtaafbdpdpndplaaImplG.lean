/- The program's IsGraph. -/
import Derived.Test.YtaafbdpdpndplaaImplF
namespace Go.Proofs.Ytaafbdpdpndplaa
open Go.RowKit

set_option maxRecDepth 100000 in
set_option maxHeartbeats 1000000 in
theorem iIsGraph_ends (n : Int) (p : Option Addr) (m c : Nat) (es : List (Int × Int)) (w : World) (hm : m ≤ 9223372036854775807) (hlen : es.length = m) (hr : SeesE w p es) (h : ¬ Ends n es) :
    Calls Try.prog 25 #[.agg #[.int .i64 n, .slice p m c]] w fun e w' => e = .returned (.bool false) ∧ Below w.heap.size w w' := by
  have Hl := hid hlen
  have Hr := hid hr
  have H := hid h
  clear hlen hr h
  go_enter Try.func25, Try.ntmps25
  go_wp2_with (go_at_call 34; refine (iGraphOf_ends _ _ _ _ es _ hm Hl.out (Hr.out.alloc _) H.out).mono ?_; rintro e w2 ⟨rfl, hb2⟩; obtain ⟨hc, hf⟩ := bcells hb2; have hz := hb2.size; simp at hz)
  have hbw := bfrom (w := w) (by go_grown) hb2
  go_ret
  exact ⟨rfl, by go_grown⟩

set_option maxRecDepth 100000 in
set_option maxHeartbeats 1000000 in
theorem iIsGraph_cubic (N b off m c : Nat) (es : List (Int × Int)) (w : World) (hm : m ≤ 9223372036854775807) (hlen : es.length = m) (hr : ReadsE w b off es) (h : Ends N es) (hC : ¬ Cubic N es) :
    Calls Try.prog 25 #[.agg #[.int .i64 N, .slice (some ⟨b, off, none⟩) m c]] w fun e w' => e = .returned (.bool false) ∧ Below w.heap.size w w' := by
  have Hl := hid hlen
  have Hr := hid hr
  have H := hid h
  have HC := hid hC
  clear hlen hr h hC
  go_enter Try.func25, Try.ntmps25
  go_wp2_with (go_at_call 34; refine (iGraphOf_cubic _ _ _ _ _ es _ hm Hl.out (Hr.out.on ((Below.refl _ _).alloc (Nat.le_refl _) _)) H.out HC.out).mono ?_; rintro e w2 ⟨rfl, hb2⟩; obtain ⟨hc, hf⟩ := bcells hb2; have hz := hb2.size; simp at hz)
  have hbw := bfrom (w := w) (by go_grown) hb2
  go_ret
  exact ⟨rfl, by go_grown⟩

set_option maxRecDepth 100000 in
set_option maxHeartbeats 1000000 in
theorem iIsGraph_yes (N b off m c : Nat) (es : List (Int × Int)) (w : World) (hm : m ≤ 1048576) (hlen : es.length = m) (hr : ReadsE w b off es) (h : Ends N es) (hC : Cubic N es) :
    Calls Try.prog 25 #[.agg #[.int .i64 N, .slice (some ⟨b, off, none⟩) m c]] w fun e w' => e = .returned (.bool (decide (InOrder es))) ∧ Below w.heap.size w w' := by
  have hm2 : m ≤ 9223372036854775807 := by omega
  have Hl := hid hlen
  have Hr := hid hr
  have H := hid h
  have HC := hid hC
  have Hm := hid hm
  clear hlen hr h hC hm
  obtain ⟨r, hR⟩ : ∃ r : Bool, (sortE es == es) = r := ⟨_, rfl⟩
  rw [← sortE_beq, hR]
  have HR := hid hR
  clear hR
  go_enter Try.func25, Try.ntmps25
  go_wp2_with (first | (go_at_call 34; refine (iGraphOf_yes _ _ _ _ _ es _ Hm.out Hl.out (Hr.out.on ((Below.refl _ _).alloc (Nat.le_refl _) _)) H.out HC.out).mono ?_; rintro e w2 ⟨g, rfl, hg2, ho2, hb2⟩; have HO2 := hid ho2; clear ho2; obtain ⟨hc, hf⟩ := bcells hb2; have hz1 : w.heap.size < w2.heap.size := (by have hz := hb2.size; simp at hz; omega)) | (go_at_call 35; refine (equalE_any _ _ _ _ _ _ (sortE es) es _ (by rw [sortE_length]; exact Hl.out) Hl.out hm2 hm2 ?_ ?_).mono ?_; rotate_left; rotate_left; rw [HR.out]; rintro e w3 ⟨rfl, hb3⟩))
  case refine_1 => exact HO2.out.sees.alloc _
  case refine_2 => exact ((SeesE.alloc (.inr ⟨b, off, rfl, Hr.out⟩) _).on hb2).alloc _
  have hbw := bfrom (w := w) (by go_grown) hb2
  go_ret
  exact ⟨rfl, bfrom (by go_grown) hb3⟩

theorem iIsGraph_any (n : Int) (p : Option Addr) (m c : Nat) (es : List (Int × Int)) (w : World) (hm : m ≤ 1048576) (hlen : es.length = m) (hr : SeesE w p es) :
    Calls Try.prog 25 #[.agg #[.int .i64 n, .slice p m c]] w fun e w' => e = .returned (.bool (decide (IsG n es))) ∧ Below w.heap.size w w' := by
  by_cases h : Ends n es
  · obtain ⟨N, rfl⟩ : ∃ N : Nat, n = N := ⟨_, (Int.toNat_of_nonneg (by have := h.1.1; omega)).symm⟩
    rcases hr with rfl | ⟨b, off, rfl, hr⟩
    · exact absurd h.1.2.2.2 (by have := h.1.1; simp; omega)
    · by_cases hC : Cubic N es
      · refine (iIsGraph_yes N b off m c es w hm hlen hr h hC).mono fun e w' ⟨he, hb⟩ => ⟨?_, hb⟩
        rw [he]
        congr 2
        by_cases h3 : InOrder es
        · rw [decide_eq_true h3, decide_eq_true ⟨h, by simpa using hC, h3⟩]
        · rw [decide_eq_false h3, decide_eq_false (fun e => h3 e.2.2)]
      · refine (iIsGraph_cubic N b off m c es w (by omega) hlen hr h hC).mono fun e w' ⟨he, hb⟩ => ⟨?_, hb⟩
        rw [he, decide_eq_false (fun e => hC (by simpa using e.2.1))]
  · refine (iIsGraph_ends n p m c es w (by omega) hlen hr h).mono fun e w' ⟨he, hb⟩ => ⟨?_, hb⟩
    rw [he, decide_eq_false (fun e => h e.1)]

end Go.Proofs.Ytaafbdpdpndplaa
