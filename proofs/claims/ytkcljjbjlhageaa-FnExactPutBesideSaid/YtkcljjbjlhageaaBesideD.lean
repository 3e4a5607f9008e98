/- PutBeside in the model. -/
import Derived.Test.YtkcljjbjlhageaaBesideC
namespace Go.Proofs.Ytkcljjbjlhageaa
open Go.RowKit

set_option maxRecDepth 100000 in
set_option maxHeartbeats 2000000 in
theorem sPB_none1 (s t : Int) (p q : Option Addr) (n1 c1 n2 c2 : Nat) (xs : List (Int × Int)) (w : World) (h1 : xs.length = n1) (m1 : n1 ≤ 9223372036854775807) (r1 : SeesE w p xs) (g1 : ¬ IsG s xs) :
    Calls Try.prog 41 #[.agg #[.int .i64 s, .slice p n1 c1], .agg #[.int .i64 t, .slice q n2 c2]] w fun e w' => e = .returned (.tuple #[.agg #[.int .i64 0, .slice none 0 0], .int .i64 1]) ∧ Below w.heap.size w w' := by
  have H1 := hid h1
  have R1 := hid r1
  have G1 := hid g1
  clear h1 r1 g1
  go_enter Try.func41, Try.ntmps41
  go_wp2_with fail
  refine (sIs_any _ _ _ _ xs _ m1 H1.out (R1.out.on (by go_grown))).mono ?_
  rw [decide_eq_false G1.out]
  rintro e w2 ⟨rfl, hb2⟩
  obtain ⟨hc2, hf2⟩ := bcells hb2
  have hz2 := hb2.size
  simp at hz2
  go_wp2
  refine bodyPost_ret (v := .tuple #[.agg #[.int .i64 0, .slice none 0 0], .int .i64 1]) (by simp [results, Try.results41, go_sem, hc2]) rfl ⟨rfl, ?_⟩
  have hbw := bfrom (w := w) (by go_grown) hb2
  go_grown

set_option maxRecDepth 100000 in
set_option maxHeartbeats 2000000 in
theorem sPB_none2 (s t : Int) (p q : Option Addr) (n1 c1 n2 c2 : Nat) (xs ys : List (Int × Int)) (w : World) (h1 : xs.length = n1) (h2 : ys.length = n2) (m1 : n1 ≤ 9223372036854775807) (m2 : n2 ≤ 9223372036854775807) (r1 : SeesE w p xs) (r2 : SeesE w q ys) (g1 : IsG s xs) (g2 : ¬ IsG t ys) :
    Calls Try.prog 41 #[.agg #[.int .i64 s, .slice p n1 c1], .agg #[.int .i64 t, .slice q n2 c2]] w fun e w' => e = .returned (.tuple #[.agg #[.int .i64 0, .slice none 0 0], .int .i64 1]) ∧ Below w.heap.size w w' := by
  have H1 := hid h1
  have R1 := hid r1
  have G1 := hid g1
  have H2 := hid h2
  have R2 := hid r2
  have G2 := hid g2
  clear h1 r1 g1 h2 r2 g2
  go_enter Try.func41, Try.ntmps41
  go_wp2_with fail
  refine (sIs_any _ _ _ _ xs _ m1 H1.out (R1.out.on (by go_grown))).mono ?_
  rw [decide_eq_true G1.out]
  rintro e w2 ⟨rfl, hb2⟩
  obtain ⟨hc2, hf2⟩ := bcells hb2
  have hbw2 := bfrom (w := w) (by go_grown) hb2
  have hz2 := hb2.size
  simp at hz2
  go_wp2_with fail
  refine (sIs_any _ _ _ _ ys _ m2 H2.out (R2.out.on hbw2)).mono ?_
  rw [decide_eq_false G2.out]
  rintro e w3 ⟨rfl, hb3⟩
  obtain ⟨hc3, hf3⟩ := bcells (bfrom hb2 hb3)
  have hz3 := (bfrom hb2 hb3).size
  simp at hz3
  clear hc2 hf2
  go_wp2
  refine bodyPost_ret (v := .tuple #[.agg #[.int .i64 0, .slice none 0 0], .int .i64 1]) (by simp [results, Try.results41, go_sem, hc3]) rfl ⟨rfl, ?_⟩
  have hbw := bfrom hbw2 hb3
  go_grown

set_option maxRecDepth 100000 in
set_option maxHeartbeats 2000000 in
theorem sPB_limit (s t : Int) (p q : Option Addr) (n1 c1 n2 c2 : Nat) (xs ys : List (Int × Int)) (w : World) (h1 : xs.length = n1) (h2 : ys.length = n2) (m1 : n1 ≤ 9223372036854775807) (m2 : n2 ≤ 9223372036854775807) (r1 : SeesE w p xs) (r2 : SeesE w q ys) (g1 : IsG s xs) (g2 : IsG t ys) (hst : 20 < s + t) :
    Calls Try.prog 41 #[.agg #[.int .i64 s, .slice p n1 c1], .agg #[.int .i64 t, .slice q n2 c2]] w fun e w' => e = .returned (.tuple #[.agg #[.int .i64 0, .slice none 0 0], .int .i64 3]) ∧ Below w.heap.size w w' := by
  have H1 := hid h1
  have R1 := hid r1
  have G1 := hid g1
  have H2 := hid h2
  have R2 := hid r2
  have G2 := hid g2
  have e1 : IntKind.i64.wrap (s + t) = s + t := IntWalk.i64_in _ (by have := g1.1.1.1; have := g1.1.1.2.1; have := g2.1.1.1; have := g2.1.1.2.1; omega)
  have e2 : decide ((20 : Int) < s + t) = true := by simp; omega
  clear h1 r1 g1 h2 r2 g2
  go_enter Try.func41, Try.ntmps41
  go_wp2_with fail
  refine (sIs_any _ _ _ _ xs _ m1 H1.out (R1.out.on (by go_grown))).mono ?_
  rw [decide_eq_true G1.out]
  rintro e w2 ⟨rfl, hb2⟩
  obtain ⟨hc2, hf2⟩ := bcells hb2
  have hbw2 := bfrom (w := w) (by go_grown) hb2
  have hz2 := hb2.size
  simp at hz2
  go_wp2_with fail
  refine (sIs_any _ _ _ _ ys _ m2 H2.out (R2.out.on hbw2)).mono ?_
  rw [decide_eq_true G2.out]
  rintro e w3 ⟨rfl, hb3⟩
  obtain ⟨hc3, hf3⟩ := bcells (bfrom hb2 hb3)
  have hz3 := (bfrom hb2 hb3).size
  simp at hz3
  clear hc2 hf2
  go_wp2
  refine bodyPost_ret (v := .tuple #[.agg #[.int .i64 0, .slice none 0 0], .int .i64 3]) (by simp [results, Try.results41, go_sem, hc3]) rfl ⟨rfl, ?_⟩
  have hbw := bfrom hbw2 hb3
  go_grown

set_option maxRecDepth 100000 in
set_option maxHeartbeats 4000000 in
theorem sPB_yes (s t : Int) (b1 o1 n1 c1 b2 o2 n2 c2 : Nat) (xs ys : List (Int × Int)) (w : World) (h1 : xs.length = n1) (h2 : ys.length = n2) (m1 : n1 ≤ 30) (m2 : n2 ≤ 30) (r1 : ReadsE w b1 o1 xs) (r2 : ReadsE w b2 o2 ys) (g1 : IsG s xs) (g2 : IsG t ys) (hst : s + t ≤ 20) :
    Calls Try.prog 41 #[.agg #[.int .i64 s, .slice (some ⟨b1, o1, none⟩) n1 c1], .agg #[.int .i64 t, .slice (some ⟨b2, o2, none⟩) n2 c2]] w fun e w' => ∃ q cap, e = .returned (.tuple #[.agg #[.int .i64 (s + t), .slice q (n1 + n2) cap], .int .i64 0]) ∧ FreshE w.heap.size w' q (n1 + n2) cap (xs ++ upE s ys) ∧ Below w.heap.size w w' := by
  have H1 := hid h1
  have R1 := hid r1
  have G1 := hid g1
  have H2 := hid h2
  have R2 := hid r2
  have G2 := hid g2
  have e1 : IntKind.i64.wrap (s + t) = s + t := IntWalk.i64_in _ (by have := g1.1.1.1; have := g1.1.1.2.1; have := g2.1.1.1; have := g2.1.1.2.1; omega)
  have e2 : decide ((20 : Int) < s + t) = false := by simp; omega
  clear h1 r1 g1 h2 r2 g2
  go_enter Try.func41, Try.ntmps41
  go_wp2_with fail
  refine (sIs_any _ _ _ _ xs _ (by omega) H1.out (.inr ⟨b1, o1, rfl, R1.out.on (by go_grown)⟩)).mono ?_
  rw [decide_eq_true G1.out]
  rintro e w2 ⟨rfl, hb2⟩
  obtain ⟨hc2, hf2⟩ := bcells hb2
  have hbw2 := bfrom (w := w) (by go_grown) hb2
  have hz2 := hb2.size
  simp at hz2
  go_wp2_with fail
  refine (sIs_any _ _ _ _ ys _ (by omega) H2.out (.inr ⟨b2, o2, rfl, R2.out.on hbw2⟩)).mono ?_
  rw [decide_eq_true G2.out]
  rintro e w3 ⟨rfl, hb3⟩
  obtain ⟨hc3, hf3⟩ := bcells (bfrom hb2 hb3)
  have hbw3 := bfrom hbw2 hb3
  have hz3 := (bfrom hb2 hb3).size
  simp at hz3
  clear hc2 hf2
  go_wp2_with fail
  refine (sBeside_any _ _ _ _ _ _ _ _ _ _ xs ys _ H1.out H2.out m1 m2 (R1.out.on hbw3) (R2.out.on hbw3) G1.out G2.out).mono ?_
  rintro e w4 ⟨q, cap, rfl, hf4, hb4⟩
  have HF4 := hid hf4
  have hbw4 := bfrom hbw3 hb4
  obtain ⟨hc4, hg4⟩ := bcells (bfrom (bfrom hb2 hb3) hb4)
  have hz4 := (bfrom (bfrom hb2 hb3) hb4).size
  simp at hz4
  clear hc3 hf3 hf4
  go_wp2
  refine bodyPost_ret (v := .tuple #[.agg #[.int .i64 (s + t), .slice q (n1 + n2) cap], .int .i64 0]) (by simp [results, Try.results41, go_sem, hc4]) rfl ⟨q, cap, rfl, ?_, ?_⟩
  · exact ((HF4.out.far (by show w.heap.size + 1 + 1 < _; omega) _).far (by show w.heap.size + 1 + 1 < _; omega) _).less (by omega)
  · go_grown

theorem sPutBeside_any (s : Int) (p : Option Addr) (n1 c1 : Nat) (xs : List (Int × Int)) (t : Int) (q : Option Addr) (n2 c2 : Nat) (ys : List (Int × Int)) (w : World) (m1 : n1 ≤ 1048576) (h1 : xs.length = n1) (r1 : SeesE w p xs) (m2 : n2 ≤ 1048576) (h2 : ys.length = n2) (r2 : SeesE w q ys) :
    Calls Try.prog 41 #[.agg #[.int .i64 s, .slice p n1 c1], .agg #[.int .i64 t, .slice q n2 c2]] w fun e w' => ∃ q' cap, e = .returned (.tuple #[.agg #[.int .i64 (fPutBeside s xs t ys).1, .slice q' (fPutBeside s xs t ys).2.1.length cap], .int .i64 (fPutBeside s xs t ys).2.2]) ∧ FreshE w.heap.size w' q' (fPutBeside s xs t ys).2.1.length cap (fPutBeside s xs t ys).2.1 ∧ Below w.heap.size w w' := by
  unfold fPutBeside
  by_cases g1 : IsG s xs
  · by_cases g2 : IsG t ys
    · rw [if_pos ⟨g1, g2⟩]
      have l1 := isG_len g1
      have l2 := isG_len g2
      by_cases hst : s + t ≤ 20
      · obtain ⟨b1, o1, rfl, rd1⟩ := isG_sees g1 r1
        obtain ⟨b2, o2, rfl, rd2⟩ := isG_sees g2 r2
        rw [if_pos hst]
        have hl : (xs ++ upE s ys).length = n1 + n2 := by rw [List.length_append, upE_length, h1, h2]
        dsimp only
        rw [hl]
        exact sPB_yes s t b1 o1 n1 c1 b2 o2 n2 c2 xs ys w h1 h2 (by omega) (by omega) rd1 rd2 g1 g2 hst
      · rw [if_neg hst]
        exact (sPB_limit s t p q n1 c1 n2 c2 xs ys w h1 h2 (by omega) (by omega) r1 r2 g1 g2 (by omega)).mono fun e w' ⟨he, hb⟩ => ⟨none, 0, he, FreshE.nil _ _, hb⟩
    · rw [if_neg (fun e => g2 e.2)]
      exact (sPB_none2 s t p q n1 c1 n2 c2 xs ys w h1 h2 (by omega) (by omega) r1 r2 g1 g2).mono fun e w' ⟨he, hb⟩ => ⟨none, 0, he, FreshE.nil _ _, hb⟩
  · rw [if_neg (fun e => g1 e.1)]
    exact (sPB_none1 s t p q n1 c1 n2 c2 xs w h1 (by omega) r1 g1).mono fun e w' ⟨he, hb⟩ => ⟨none, 0, he, FreshE.nil _ _, hb⟩

end Go.Proofs.Ytkcljjbjlhageaa
