/- The program's GraphOf and IsGraph. -/
import Derived.Test.YtafiockejagapaaImplE
namespace Go.Proofs.Ytafiockejagapaa
open Go.RowKit

set_option maxRecDepth 100000 in
set_option maxHeartbeats 1000000 in
theorem iGraphOf_ends (n : Int) (p : Option Addr) (m c : Nat) (es : List (Int × Int)) (w : World) (hm : m ≤ 9223372036854775807) (hlen : es.length = m) (hr : SeesE w p es) (h : ¬ Ends n es) :
    Calls Try.prog 99 #[.int .i64 n, .slice p m c] w fun e w' => e = .returned (.tuple #[.agg #[.int .i64 0, .slice none 0 0], .int .i64 2]) ∧ Below w.heap.size w w' := by
  have Hl := hid hlen
  have Hr := hid hr
  have H := hid h
  clear hlen hr h
  go_enter Try.func99, Try.ntmps99
  go_wp2_with (go_at_call 127; refine (iEdges_any _ _ _ _ es _ hm Hl.out (Hr.out.alloc _)).mono ?_; rw [decide_eq_false H.out]; rintro e w2 ⟨rfl, hb2⟩; obtain ⟨hc, hf⟩ := bcells hb2; have hz := hb2.size; simp at hz)
  have hbw := bfrom (w := w) (by go_grown) hb2
  refine bodyPost_ret (v := .tuple #[.agg #[.int .i64 0, .slice none 0 0], .int .i64 2]) (by simp [results, Try.results99, go_sem, hc]) rfl ⟨rfl, by go_grown⟩

set_option maxRecDepth 100000 in
set_option maxHeartbeats 1000000 in
theorem iGraphOf_cubic (N b off m c : Nat) (es : List (Int × Int)) (w : World) (hm : m ≤ 9223372036854775807) (hlen : es.length = m) (hr : ReadsE w b off es) (h : Ends N es) (hC : ¬ Cubic N es) :
    Calls Try.prog 99 #[.int .i64 N, .slice (some ⟨b, off, none⟩) m c] w fun e w' => e = .returned (.tuple #[.agg #[.int .i64 0, .slice none 0 0], .int .i64 5]) ∧ Below w.heap.size w w' := by
  have Hl := hid hlen
  have Hr := hid hr
  have H := hid h
  have HC := hid hC
  clear hlen hr h hC
  go_enter Try.func99, Try.ntmps99
  go_wp2_with (first | (go_at_call 127; refine (iEdges_any _ _ _ _ es _ hm Hl.out (SeesE.alloc (.inr ⟨b, off, rfl, Hr.out⟩) _)).mono ?_; rw [decide_eq_true H.out]; rintro e w2 ⟨rfl, hb2⟩) | (go_at_call 128; refine (iThree_any _ _ _ _ _ es _ H.out Hl.out ((Hr.out.on ((Below.refl _ _).alloc (Nat.le_refl _) _)).on hb2)).mono ?_; rw [decide_eq_false HC.out]; rintro e w3 ⟨rfl, hb3⟩; have hb4 := bfrom hb2 hb3; obtain ⟨hc, hf⟩ := bcells hb4; have hz := hb4.size; simp at hz))
  have hbw := bfrom (w := w) (by go_grown) hb4
  refine bodyPost_ret (v := .tuple #[.agg #[.int .i64 0, .slice none 0 0], .int .i64 5]) (by simp [results, Try.results99, go_sem, hc]) rfl ⟨rfl, by go_grown⟩

set_option maxRecDepth 100000 in
set_option maxHeartbeats 1000000 in
theorem iGraphOf_yes (N b off m c : Nat) (es : List (Int × Int)) (w : World) (hm : m ≤ 1048576) (hlen : es.length = m) (hr : ReadsE w b off es) (h : Ends N es) (hC : Cubic N es) :
    Calls Try.prog 99 #[.int .i64 N, .slice (some ⟨b, off, none⟩) m c] w fun e w' => ∃ g, e = .returned (.tuple #[.agg #[.int .i64 N, .slice (some ⟨g, 0, none⟩) m m], .int .i64 0]) ∧ w.heap.size ≤ g ∧ OwnE w' g m (sortE es) ∧ Below w.heap.size w w' := by
  have Hl := hid hlen
  have Hr := hid hr
  have H := hid h
  have HC := hid hC
  have Hm := hid hm
  clear hlen hr h hC hm
  go_enter Try.func99, Try.ntmps99
  go_wp2_with (first | (go_at_call 127; refine (iEdges_any _ _ _ _ es _ (by have := Hm.out; omega) Hl.out (SeesE.alloc (.inr ⟨b, off, rfl, Hr.out⟩) _)).mono ?_; rw [decide_eq_true H.out]; rintro e w2 ⟨rfl, hb2⟩) | (go_at_call 128; refine (iThree_any _ _ _ _ _ es _ H.out Hl.out ((Hr.out.on ((Below.refl _ _).alloc (Nat.le_refl _) _)).on hb2)).mono ?_; rw [decide_eq_true HC.out]; rintro e w3 ⟨rfl, hb3⟩) | (go_at_call 129; refine (inOrder_any _ _ _ _ es _ Hm.out Hl.out (((Hr.out.on ((Below.refl _ _).alloc (Nat.le_refl _) _)).on hb2).on hb3)).mono ?_; rintro e w4 ⟨rfl, ho4, hb4⟩; have HO4 := hid ho4; clear ho4; have hb5 := bfrom (bfrom hb2 hb3) hb4; obtain ⟨hc, hf⟩ := bcells hb5; have hz := hb5.size; simp at hz))
  have hbw := bfrom (w := w) (by go_grown) hb5
  have hz3 := (bfrom hb2 hb3).size
  simp at hz3
  refine bodyPost_ret (v := .tuple #[.agg #[.int .i64 N, .slice (some ⟨w3.heap.size, 0, none⟩) m m], .int .i64 0]) (by simp [results, Try.results99, go_sem, hc]) rfl ⟨_, rfl, by omega, ?_, by go_grown⟩
  refine OwnE.far (OwnE.far HO4.out ?_ _) ?_ _ <;> simp <;> omega

end Go.Proofs.Ytafiockejagapaa
