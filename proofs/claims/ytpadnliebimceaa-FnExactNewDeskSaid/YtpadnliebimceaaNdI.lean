/- NewDesk in the program: the graph with the name k4, no colouring, no matching. -/
import Derived.Test.YtpadnliebimceaaNdA
import Derived.Test.YtpadnliebimceaaNdL
namespace Go.Proofs.Ytpadnliebimceaa
open Go.RowKit

set_option maxRecDepth 100000 in
set_option maxHeartbeats 4000000 in
theorem iNamed_k4 (w : World) :
    Calls Try.prog 37 #[.string ⟨#[107, 52]⟩] w fun e w' => ∃ g, e = .returned (.tuple #[.agg #[.int .i64 4, .slice (some ⟨g, 0, none⟩) 6 6], .int .i64 0]) ∧ w.heap.size ≤ g ∧ OwnE w' g 6 (k4L 6) ∧ Below w.heap.size w w' := by
  go_enter Try.func37, Try.ntmps37
  go_wp2_with fail
  refine (iWithin_four _).mono ?_
  rintro e w2 ⟨g2, cap2, rfl, hg2, ho2, hb2⟩
  have HB2 := hid (bfrom (w := w) (on_alloc _ _) hb2)
  have HX2 : Hid (Box w2 w.heap.size 0 none 0 0) := hid ((Box.new w 0 none 0 0 24).on hb2)
  have hf2 : ∀ o, w2.frozen? ⟨w.heap.size, o, none⟩ = false := fun o => ((bcells hb2).2 _ _ (by simp)).trans (free_cellD _ _ _ _ _ rfl)
  have HO2 := hid ho2
  simp only [World.size_alloc] at hg2
  clear ho2 hb2
  go_wp2_with fail
  refine (iGraphOf_yes 4 g2 0 6 cap2 (k4L 6) _ (by omega) (k4L_len 6) HO2.out.reads k4_is.1 k4_is.2.1).mono ?_
  rintro e w3 ⟨g3, rfl, hg3, ho3, hb3⟩
  rw [sortE_of_inOrder k4_is.2.2] at ho3
  have HB3 := hid (bfrom HB2.out hb3)
  have HX3 := hid (HX2.out.on hb3)
  have hxl := HX2.out.lt
  have hf3 : ∀ o, w3.frozen? ⟨w.heap.size, o, none⟩ = false := fun o => ((bcells hb3).2 _ _ hxl).trans (hf2 o)
  have HO3 := hid ho3
  clear ho3 hb3 hf2
  have hf3a := hf3 0
  have hf3b := hf3 1
  have hx3 := HX3.out.1
  have hy3 := HX3.out.2
  have hl3 := HX3.out.lt
  go_wp2_with fail
  refine bodyPost_ret (v := .tuple #[.agg #[.int .i64 4, .slice (some ⟨g3, 0, none⟩) 6 6], .int .i64 0]) (by simp [results, Try.results37, go_sem, hx3, hy3]) rfl ⟨g3, rfl, by omega, ?_, ?_⟩
  · refine OwnE.far (OwnE.far HO3.out ?_ _) ?_ _ <;> simp <;> omega
  · have h := HB3.out; go_grown

set_option maxRecDepth 100000 in
set_option maxHeartbeats 4000000 in
theorem iNewDesk_any (w : World) :
    Calls Try.prog 10 #[] w fun e w' => ∃ g, e = .returned (.agg #[.int .i64 4, .slice (some ⟨g, 0, none⟩) 6 6, .slice none 0 0, .slice none 0 0]) ∧ w.heap.size ≤ g ∧ OwnE w' g 6 (k4L 6) ∧ Below w.heap.size w w' := by
  go_enter Try.func10, Try.ntmps10
  go_wp2_with fail
  refine (iNamed_k4 _).mono ?_
  rintro e w2 ⟨g2, rfl, hg2, ho2, hb2⟩
  have HB2 := hid (bfrom (w := w) (on_alloc _ _) hb2)
  have HX2 : Hid (Box4 w2 w.heap.size 0 none 0 0 none 0 0 none 0 0) := hid ((Box4.new w 0 none 0 0 none 0 0 none 0 0 27).on hb2)
  have hf2 : ∀ o, w2.frozen? ⟨w.heap.size, o, none⟩ = false := fun o => ((bcells hb2).2 _ _ (by simp)).trans (free_cellD _ _ _ _ _ rfl)
  have hg2' := ho2.lt
  have HO2 := hid ho2
  simp only [World.size_alloc] at hg2
  clear ho2 hb2
  have hf2a := hf2 0
  have hf2b := hf2 1
  have hf2c := hf2 2
  have hf2d := hf2 3
  have hx0 := HX2.out.1
  have hx1 := HX2.out.2.1
  have hx2 := HX2.out.2.2.1
  have hx3 := HX2.out.2.2.2
  have hxl := HX2.out.lt
  go_wp2_with fail
  refine bodyPost_ret (v := .agg #[.int .i64 4, .slice (some ⟨g2, 0, none⟩) 6 6, .slice none 0 0, .slice none 0 0]) (by simp [results, Try.results10, go_sem, hx0, hx1, hx2, hx3, hxl]) rfl ⟨g2, rfl, by omega, ?_, ?_⟩
  · refine OwnE.alloc (OwnE.far (OwnE.far (OwnE.far (OwnE.far HO2.out ?_ _) ?_ _) ?_ _) ?_ _) _ <;> simp <;> omega
  · have h := HB2.out; go_grown

end Go.Proofs.Ytpadnliebimceaa
