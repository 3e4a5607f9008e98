/- The model's graphs of edges set in order. -/
import Derived.Test.YtfdlhdgmbjdhbaaSpecE
import Derived.Test.YtfdlhdgmbjdhbaaLawsD
namespace Go.Proofs.Ytfdlhdgmbjdhbaa
open Go.RowKit

theorem sSort_fresh (b off m c : Nat) (es : List (Int × Int)) (w : World) (hm : m ≤ 1048576) (hlen : es.length = m) (hr : ReadsE w b off es) :
    Calls Try.prog 67 #[.slice (some ⟨b, off, none⟩) m c] w fun e w' => ∃ q cap, e = .returned (.slice q m cap) ∧ FreshE w.heap.size w' q m cap (sortE es) ∧ Below w.heap.size w w' := by
  refine (sSort_any b off m c es w hm hlen hr).mono fun e w' ⟨v, he, ho, hb⟩ => ?_
  rcases ho.2 with ⟨rfl, h0⟩ | ⟨g, cap, cur, rfl, _⟩
  · subst h0
    exact ⟨none, 0, he, ⟨ho, by rw [sortE_length]; exact hlen⟩, hb⟩
  · exact ⟨some ⟨g, 0, none⟩, cap, he, ⟨ho, by rw [sortE_length]; exact hlen⟩, hb⟩

set_option maxRecDepth 100000 in
set_option maxHeartbeats 1000000 in
theorem sMade_any (s : Int) (b off m c : Nat) (es : List (Int × Int)) (w : World) (hm : m ≤ 1048576) (hlen : es.length = m) (hr : ReadsE w b off es) :
    Calls Try.prog 32 #[.int .i64 s, .slice (some ⟨b, off, none⟩) m c] w fun e w' => ∃ q cap, e = .returned (.agg #[.int .i64 s, .slice q m cap]) ∧ FreshE w.heap.size w' q m cap (sortE es) ∧ Below w.heap.size w w' := by
  have Hl := hid hlen
  have Hr := hid hr
  have Hm := hid hm
  clear hlen hr hm
  go_enter Try.func32, Try.ntmps32
  go_wp2_with (go_at_call 67; refine (sSort_fresh _ _ _ _ es _ Hm.out Hl.out (Hr.out.on (on_alloc _ _))).mono ?_; rintro e w2 ⟨q, cap, rfl, hf2, hb2⟩; have HF2 := hid hf2; clear hf2; obtain ⟨hc, hf⟩ := bcells hb2)
  have hbw := bfrom (w := w) (by go_grown) hb2
  have hz : w.heap.size < w2.heap.size := by have h := hb2.size; simp at h; omega
  refine bodyPost_ret (v := .agg #[.int .i64 s, .slice q m cap]) (by simp [results, Try.results32, go_sem, hc]) rfl ⟨q, cap, rfl, ?_, by go_grown⟩
  exact ((HF2.out.far (by simp) _).far (by simp) _).less (by simp)

end Go.Proofs.Ytfdlhdgmbjdhbaa
