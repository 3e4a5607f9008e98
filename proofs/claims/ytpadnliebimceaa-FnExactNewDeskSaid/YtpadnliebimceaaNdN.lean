/- NewDesk in the model: the fresh desk of the graph with the name k4. -/
import Derived.Test.YtpadnliebimceaaNdS
namespace Go.Proofs.Ytpadnliebimceaa
open Go.RowKit

set_option maxRecDepth 100000 in
set_option maxHeartbeats 4000000 in
theorem sNew_any (w : World) :
    Calls Try.prog 36 #[] w fun e w' => ∃ q cap p1 p2, e = .returned (.agg #[.int .i64 4, .slice q 6 cap, .slice p1 0 0, .slice p2 0 0]) ∧ FreshE w.heap.size w' q 6 cap (k4L 6) ∧ Below w.heap.size w w' := by
  go_enter Try.func36, Try.ntmps36
  go_wp2_with fail
  refine (sNamed_k4 _).mono ?_
  rintro e w2 ⟨q2, cap2, rfl, hf2, hb2⟩
  have HB2 := hid (bfrom (w := w) (on_alloc _ _) hb2)
  have HX2 : Hid (Box4 w2 w.heap.size 0 none 0 0 none 0 0 none 0 0) := hid ((Box4.new w 0 none 0 0 none 0 0 none 0 0 27).on hb2)
  have hfr2 : ∀ o, w2.frozen? ⟨w.heap.size, o, none⟩ = false := fun o => ((bcells hb2).2 _ _ (by simp)).trans (free_cellD _ _ _ _ _ rfl)
  obtain ⟨b2, o2, rfl, hr2⟩ : ∃ b o, q2 = some ⟨b, o, none⟩ ∧ ReadsE w2 b o (k4L 6) := by
    rcases hf2.sees with h | ⟨b, o, h1, h2⟩
    · exact absurd (congrArg List.length h) (by rw [k4L_len]; decide)
    · exact ⟨b, o, h1, h2⟩
  have HR2 := hid hr2
  clear hf2 hb2 hr2
  go_wp2_with fail
  refine (sFresh_k 4 b2 o2 6 cap2 (k4L 6) _ (k4L_len 6) (by omega) (by omega) (HR2.out.on (on_alloc _ _))).mono ?_
  rintro e w3 ⟨q3, cap3, p1, p2, rfl, hf3, hb3⟩
  have HB3 := hid (bfrom (bfrom HB2.out (on_alloc _ _)) hb3)
  have HX3 := hid ((HX2.out.on (on_alloc _ _)).on hb3)
  have hlt2 := HX2.out.lt
  have hfr3 : ∀ o, w3.frozen? ⟨w.heap.size, o, none⟩ = false := fun o => ((bcells hb3).2 _ _ (by simp only [World.size_alloc]; omega)).trans (((bcells (on_alloc _ _)).2 _ _ hlt2).trans (hfr2 o))
  have HF3 := hid hf3
  clear hf3 hb3 hfr2
  have hfa := hfr3 0
  have hfb := hfr3 1
  have hfc := hfr3 2
  have hfd := hfr3 3
  have hx0 := HX3.out.1
  have hx1 := HX3.out.2.1
  have hx2 := HX3.out.2.2.1
  have hx3 := HX3.out.2.2.2
  have hxl := HX3.out.lt
  go_wp2_with fail
  refine bodyPost_ret (v := .agg #[.int .i64 4, .slice q3 6 cap3, .slice p1 0 0, .slice p2 0 0]) (by simp [results, Try.results36, go_sem, hx0, hx1, hx2, hx3]) rfl ⟨q3, cap3, p1, p2, rfl, ?_, ?_⟩
  · exact ((((HF3.out.far (by simp only [World.size_alloc]; omega) _).far (by simp only [World.size_alloc]; omega) _).far (by simp only [World.size_alloc]; omega) _).far (by simp only [World.size_alloc]; omega) _).less (by simp only [World.size_alloc]; omega)
  · have h := HB3.out; go_grown

set_option maxRecDepth 100000 in
set_option maxHeartbeats 4000000 in
theorem sNewDesk_any (w : World) :
    Calls Try.prog 9 #[] w fun e w' => ∃ q cap p1 p2, e = .returned (.agg #[.int .i64 4, .slice q 6 cap, .slice p1 0 0, .slice p2 0 0]) ∧ FreshE w.heap.size w' q 6 cap (k4L 6) ∧ Below w.heap.size w w' := by
  go_enter Try.func9, Try.ntmps9
  go_wp2_with fail
  refine (sNew_any _).mono ?_
  rintro e w3 ⟨q3, cap3, p1, p2, rfl, hf3, hb3⟩
  have HB3 := hid (bfrom (w := w) (on_alloc _ _) hb3)
  have HX3 : Hid (Box4 w3 w.heap.size 0 none 0 0 none 0 0 none 0 0) := hid ((Box4.new w 0 none 0 0 none 0 0 none 0 0 27).on hb3)
  have hfr3 : ∀ o, w3.frozen? ⟨w.heap.size, o, none⟩ = false := fun o => ((bcells hb3).2 _ _ (by simp)).trans (free_cellD _ _ _ _ _ rfl)
  have HF3 := hid hf3
  clear hf3 hb3
  have hfa := hfr3 0
  have hfb := hfr3 1
  have hfc := hfr3 2
  have hfd := hfr3 3
  have hx0 := HX3.out.1
  have hx1 := HX3.out.2.1
  have hx2 := HX3.out.2.2.1
  have hx3 := HX3.out.2.2.2
  have hxl := HX3.out.lt
  go_wp2_with fail
  refine bodyPost_ret (v := .agg #[.int .i64 4, .slice q3 6 cap3, .slice p1 0 0, .slice p2 0 0]) (by simp [results, Try.results9, go_sem, hx0, hx1, hx2, hx3]) rfl ⟨q3, cap3, p1, p2, rfl, ?_, ?_⟩
  · exact ((((HF3.out.far (by simp) _).far (by simp) _).far (by simp) _).far (by simp) _).less (by simp)
  · have h := HB3.out; go_grown

end Go.Proofs.Ytpadnliebimceaa
