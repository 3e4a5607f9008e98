/- FlowerGraph in the program. -/
import Derived.Test.YtppkcpekknhbmaaFlwI
import Derived.Test.YtppkcpekknhbmaaImplG
import Derived.Test.YtppkcpekknhbmaaLeft
namespace Go.Proofs.Ytppkcpekknhbmaa
open Go.RowKit Go.Lib

theorem catU_all (Ls : List (List (Int × Int))) : catU Ls Ls.length = Ls.flatten := by unfold catU; rw [List.take_length]
theorem flP_len {K : Nat} (h : K = 3 ∨ K = 5) : (flP K).flatten.length = 6 * K := by rw [(fl_perm h).length_eq, flM_len]

set_option maxHeartbeats 4000000 in
set_option maxRecDepth 100000 in
theorem iFlowerE_any (K : Nat) (w : World) (hK : K = 3 ∨ K = 5) :
    Calls Try.prog 77 #[.int .i64 K] w fun e w' => ∃ g cap, e = .returned (.slice (some ⟨g, 0, none⟩) (6 * K) cap) ∧ w.heap.size ≤ g ∧ OwnE w' g cap (flP K).flatten ∧ Below w.heap.size w w' := by
  have hK1 : 3 ≤ K := by omega
  have hK2 : K ≤ 5 := by omega
  have HK := hid hK
  clear hK
  have e2 : IntKind.i64.wrap (2 * (K : Int)) = 2 * (K : Int) := IntWalk.i64_in _ (by omega)
  have e3 : IntKind.i64.wrap (3 * (K : Int)) = 3 * (K : Int) := IntWalk.i64_in _ (by omega)
  have e4 : IntKind.i64.wrap (4 * (K : Int)) = 4 * (K : Int) := IntWalk.i64_in _ (by omega)
  have e5 : IntKind.i64.wrap (2 * (K : Int) - 1) = 2 * (K : Int) - 1 := IntWalk.i64_in _ (by omega)
  have e6 : IntKind.i64.wrap (4 * (K : Int) - 1) = 4 * (K : Int) - 1 := IntWalk.i64_in _ (by omega)
  obtain ⟨J1, hJ1⟩ : ∃ J, J = K - 1 := ⟨_, rfl⟩
  obtain ⟨J2, hJ2⟩ : ∃ J, J = 2 * K - 1 := ⟨_, rfl⟩
  have HJ1 := hid hJ1
  have HJ2 := hid hJ2
  have hj1 : (2 * (K : Int) - 1) = (K : Int) + (J1 : Int) := by omega
  have hj2 : (4 * (K : Int) - 1) = 2 * (K : Int) + (J2 : Int) := by omega
  have Hj1 := hid hj1
  have Hj2 := hid hj2
  have hb1 : J1 ≤ 40 ∧ J2 ≤ 40 := by omega
  have Hb1 := hid hb1
  clear hJ1 hJ2 hj1 hj2 hb1
  go_enter Try.func77, Try.ntmps77
  go_wp2_with fail
  refine (iRungs_any K (K : Int) _ (by omega) (by omega) (by omega) (by omega)).mono ?_
  rintro e w1 ⟨g1, cap1, rfl, hg1, ho1, hb1⟩
  have HO1 := hid ho1
  have HB1 := hid hb1
  clear ho1 hb1
  go_wp2_with fail
  refine (iRungs_any K (2 * (K : Int)) _ (by omega) (by omega) (by omega) (by omega)).mono ?_
  rintro e w2 ⟨g2, cap2, rfl, hg2, ho2, hb2⟩
  have HO2 := hid ho2
  have HO1 := hid (HO1.out.on hb2)
  have HB2 := hid (bfrom HB1.out hb2)
  clear ho2 hb2
  go_wp2_with fail
  refine (iRungs_any K (3 * (K : Int)) _ (by omega) (by omega) (by omega) (by omega)).mono ?_
  rintro e w3 ⟨g3, cap3, rfl, hg3, ho3, hb3⟩
  have HO3 := hid ho3
  have HO2 := hid (HO2.out.on hb3)
  have HO1 := hid (HO1.out.on hb3)
  have HB3 := hid (bfrom HB2.out hb3)
  clear ho3 hb3
  go_wp2_with fail
  refine (iCyc_any (K : Int) (2 * (K : Int) - 1) J1 _ Hj1.out Hb1.out.1 (by omega) (by omega)).mono ?_
  rintro e w4 ⟨g4, cap4, rfl, hg4, ho4, hb4⟩
  have HO4 := hid ho4
  have HO3 := hid (HO3.out.on hb4)
  have HO2 := hid (HO2.out.on hb4)
  have HO1 := hid (HO1.out.on hb4)
  have HB4 := hid (bfrom HB3.out hb4)
  clear ho4 hb4
  go_wp2_with fail
  refine (iCyc_any (2 * (K : Int)) (4 * (K : Int) - 1) J2 _ Hj2.out Hb1.out.2 (by omega) (by omega)).mono ?_
  rintro e w5 ⟨g5, cap5, rfl, hg5, ho5, hb5⟩
  have HO5 := hid ho5
  have HO4 := hid (HO4.out.on hb5)
  have HO3 := hid (HO3.out.on hb5)
  have HO2 := hid (HO2.out.on hb5)
  have HO1 := hid (HO1.out.on hb5)
  have HB5 := hid (bfrom HB4.out hb5)
  clear ho5 hb5
  obtain ⟨w6, hw6⟩ : ∃ w6, w6 = w5.alloc (.cells #[.slice (some ⟨g1, 0, none⟩) K cap1, .slice (some ⟨g2, 0, none⟩) K cap2, .slice (some ⟨g3, 0, none⟩) K cap3, .slice (some ⟨g4, 0, none⟩) (J1 + 1) cap4, .slice (some ⟨g5, 0, none⟩) (J2 + 1) cap5] 28) := ⟨_, rfl⟩
  have HB6 := hid (show Below w5.heap.size w5 w6 by rw [hw6]; exact on_alloc _ _)
  have HH := hid (show HoldsE w6 w5.heap.size (flP K) by
    intro i hi
    have hc := fun j v h => cell_of_row w6 w5.heap.size j #[.slice (some ⟨g1, 0, none⟩) K cap1, .slice (some ⟨g2, 0, none⟩) K cap2, .slice (some ⟨g3, 0, none⟩) K cap3, .slice (some ⟨g4, 0, none⟩) (J1 + 1) cap4, .slice (some ⟨g5, 0, none⟩) (J2 + 1) cap5] 28 (0, 0) (show w6.heap[w5.heap.size]? = _ by rw [hw6]; exact heap_alloc_new w5 _) |>.trans (show _ = some (v : Value) from h)
    have hz : w5.heap.size < w6.heap.size := by rw [hw6]; simp
    have q1 := HO1.out.on HB6.out
    have q2 := HO2.out.on HB6.out
    have q3 := HO3.out.on HB6.out
    have q4 := HO4.out.on HB6.out
    have q5 := HO5.out.on HB6.out
    rcases (by simp [flP] at hi; omega : i = 0 ∨ i = 1 ∨ i = 2 ∨ i = 3 ∨ i = 4) with rfl | rfl | rfl | rfl | rfl
    · exact ⟨g1, 0, cap1, (hc 0 _ rfl).trans (by show _ = some (Value.slice _ (rungL K K).length _); rw [rungL_len]; rfl), q1.reads, by show 0 < (rungL K K).length; rw [rungL_len]; omega, hz, q1.lt⟩
    · exact ⟨g2, 0, cap2, (hc 1 _ rfl).trans (by show _ = some (Value.slice _ (rungL K (2 * (K : Int))).length _); rw [rungL_len]; rfl), q2.reads, by show 0 < (rungL K (2 * (K : Int))).length; rw [rungL_len]; omega, hz, q2.lt⟩
    · exact ⟨g3, 0, cap3, (hc 2 _ rfl).trans (by show _ = some (Value.slice _ (rungL K (3 * (K : Int))).length _); rw [rungL_len]; rfl), q3.reads, by show 0 < (rungL K (3 * (K : Int))).length; rw [rungL_len]; omega, hz, q3.lt⟩
    · exact ⟨g4, 0, cap4, (hc 3 _ rfl).trans (by show _ = some (Value.slice _ (cycT (K : Int) (2 * (K : Int) - 1) (K - 1)).length _); rw [cycT_len, HJ1.out]; rfl), (by rw [HJ1.out] at q4; exact q4.reads), by show 0 < (cycT (K : Int) (2 * (K : Int) - 1) (K - 1)).length; rw [cycT_len]; omega, hz, q4.lt⟩
    · exact ⟨g5, 0, cap5, (hc 4 _ rfl).trans (by show _ = some (Value.slice _ (cycT (2 * (K : Int)) (4 * (K : Int) - 1) (2 * K - 1)).length _); rw [cycT_len, HJ2.out]; rfl), (by rw [HJ2.out] at q5; exact q5.reads), by show 0 < (cycT (2 * (K : Int)) (4 * (K : Int) - 1) (2 * K - 1)).length; rw [cycT_len]; omega, hz, q5.lt⟩)
  have hsz5 := HB5.out.size
  have hsz6 := HB6.out.size
  go_wp2_with fail
  rw [← hw6]
  clear hw6
  refine (iConcatE_any w5.heap.size 5 5 (6 * K) (flP K) w6 rfl (by omega) (by rw [show (5 : Nat) = (flP K).length from rfl, catU_all]; exact flP_len HK.out) (by omega) (by omega) HH.out).mono ?_
  rw [show catU (flP K) 5 = (flP K).flatten from catU_all (flP K)]
  rintro e w7 ⟨g7, cap7, rfl, hg7, ho7, hb7⟩
  have HO7 := hid ho7
  have HB7 := hid (bfrom (bfrom HB5.out HB6.out) hb7)
  clear ho7 hb7
  go_wp2
  go_ret
  exact ⟨g7, cap7, rfl, by omega, HO7.out, HB7.out⟩

set_option maxHeartbeats 4000000 in
set_option maxRecDepth 100000 in
theorem iFlower_yes (K : Nat) (w : World) (hK : K = 3 ∨ K = 5) :
    Calls Try.prog 40 #[.int .i64 K] w fun e w' => ∃ q cap, e = .returned (.tuple #[.agg #[.int .i64 (4 * (K : Int)), .slice q (6 * K) cap], .int .i64 0]) ∧ FreshE w.heap.size w' q (6 * K) cap (sortE (flM K)) ∧ Below w.heap.size w w' := by
  have hK1 : 3 ≤ K := by omega
  have hK2 : K ≤ 5 := by omega
  have HK := hid hK
  have e4 : IntKind.i64.wrap (4 * (K : Int)) = 4 * (K : Int) := IntWalk.i64_in _ (by omega)
  have HS := hid (sortE_sameF (fl_perm hK))
  obtain ⟨hE0, hC0⟩ := fl_ends hK
  have HE := hid (show Ends ((4 * K : Nat) : Int) (flP K).flatten by rw [show ((4 * K : Nat) : Int) = 4 * (K : Int) by omega]; exact hE0)
  have HC := hid (show Cubic (4 * K) (flP K).flatten by rw [show 4 * K = (4 * (K : Int)).toNat by omega]; exact hC0)
  have HL := hid (flP_len hK)
  obtain ⟨b1, hb1⟩ : ∃ b, ((K : Int) != 3) = b := ⟨_, rfl⟩
  have t2 : b1 = true → ((K : Int) != 5) = false := fun h => by
    rcases hK with rfl | rfl
    · rw [h] at hb1; exact absurd hb1 (by decide)
    · rfl
  rw [← HS.out]
  clear hE0 hC0 hK
  cases b1
  · clear t2
    go_enter Try.func40, Try.ntmps40
    go_wp2_with fail
    refine (iFlowerE_any K _ HK.out).mono ?_
    rintro e w2 ⟨g2, cap2, rfl, hg2, ho2, hb2⟩
    have HO2 := hid ho2
    have HB2 := hid (bfrom (w := w) (on_alloc _ _) hb2)
    have HG2 := hid ((GBox.new (s := 0) (q := none) (n := 0) (c := 0) w w.heap.size rfl).on hb2)
    clear ho2 hb2
    go_wp2_with fail
    have hgo := iGraphOf_yes (4 * K) g2 0 (6 * K) cap2 (flP K).flatten w2 (by omega) HL.out HO2.out.reads HE.out HC.out
    rw [show ((4 * K : Nat) : Int) = 4 * (K : Int) by omega] at hgo
    refine hgo.mono ?_
    rintro e w3 ⟨g3, rfl, hg3, ho3, hb3⟩
    have HO3 := hid ho3
    have HB3 := hid (bfrom HB2.out hb3)
    have HG3 := hid (HG2.out.on hb3)
    have hra := HG3.out.box.1
    have hrb := HG3.out.box.2
    have hfa := HG3.out.frozen 0
    have hfb := HG3.out.frozen 1
    have hz3 := HG3.out.lt
    have hw2 := HB2.out.size
    have hg2w := HG2.out.lt
    clear ho3 hb3 hgo
    go_wp2
    refine bodyPost_ret (v := .tuple #[.agg #[.int .i64 (4 * (K : Int)), .slice (some ⟨g3, 0, none⟩) (6 * K) (6 * K)], .int .i64 0]) (by simp [results, Try.results40, go_sem, hra, hrb]) rfl ⟨some ⟨g3, 0, none⟩, 6 * K, rfl, ?_, ?_⟩
    · exact FreshE.of_own ((HO3.out.far (by show g3 ≠ w.heap.size; omega) _).far (by show g3 ≠ w.heap.size; omega) _) (by rw [sortE_length, HL.out]) (by omega)
    · exact (HB3.out.setCell (p := ⟨w.heap.size, 0, none⟩) (by show w.heap.size ≤ w.heap.size; omega) _).setCell (p := ⟨w.heap.size, 1, none⟩) (by show w.heap.size ≤ w.heap.size; omega) _
  · have t3 := t2 rfl
    clear t2
    go_enter Try.func40, Try.ntmps40
    go_wp2_with fail
    refine (iFlowerE_any K _ HK.out).mono ?_
    rintro e w2 ⟨g2, cap2, rfl, hg2, ho2, hb2⟩
    have HO2 := hid ho2
    have HB2 := hid (bfrom (w := w) (on_alloc _ _) hb2)
    have HG2 := hid ((GBox.new (s := 0) (q := none) (n := 0) (c := 0) w w.heap.size rfl).on hb2)
    clear ho2 hb2
    go_wp2_with fail
    have hgo := iGraphOf_yes (4 * K) g2 0 (6 * K) cap2 (flP K).flatten w2 (by omega) HL.out HO2.out.reads HE.out HC.out
    rw [show ((4 * K : Nat) : Int) = 4 * (K : Int) by omega] at hgo
    refine hgo.mono ?_
    rintro e w3 ⟨g3, rfl, hg3, ho3, hb3⟩
    have HO3 := hid ho3
    have HB3 := hid (bfrom HB2.out hb3)
    have HG3 := hid (HG2.out.on hb3)
    have hra := HG3.out.box.1
    have hrb := HG3.out.box.2
    have hfa := HG3.out.frozen 0
    have hfb := HG3.out.frozen 1
    have hz3 := HG3.out.lt
    have hw2 := HB2.out.size
    have hg2w := HG2.out.lt
    clear ho3 hb3 hgo
    go_wp2
    refine bodyPost_ret (v := .tuple #[.agg #[.int .i64 (4 * (K : Int)), .slice (some ⟨g3, 0, none⟩) (6 * K) (6 * K)], .int .i64 0]) (by simp [results, Try.results40, go_sem, hra, hrb]) rfl ⟨some ⟨g3, 0, none⟩, 6 * K, rfl, ?_, ?_⟩
    · exact FreshE.of_own ((HO3.out.far (by show g3 ≠ w.heap.size; omega) _).far (by show g3 ≠ w.heap.size; omega) _) (by rw [sortE_length, HL.out]) (by omega)
    · exact (HB3.out.setCell (p := ⟨w.heap.size, 0, none⟩) (by show w.heap.size ≤ w.heap.size; omega) _).setCell (p := ⟨w.heap.size, 1, none⟩) (by show w.heap.size ≤ w.heap.size; omega) _

end Go.Proofs.Ytppkcpekknhbmaa
