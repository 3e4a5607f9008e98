/- Two graphs beside each other: the program's errors; one word for both sides. -/
import Derived.Test.YtkcljjbjlhageaaBesideA
namespace Go.Proofs.Ytkcljjbjlhageaa
open Go.RowKit

set_option maxRecDepth 100000 in
set_option maxHeartbeats 2000000 in
theorem iBeside_none1 (s t : Int) (p q : Option Addr) (n1 c1 n2 c2 : Nat) (xs : List (Int × Int)) (w : World) (h1 : xs.length = n1) (m1 : n1 ≤ 1048576) (r1 : SeesE w p xs) (g1 : ¬ IsG s xs) :
    Calls Try.prog 42 #[.agg #[.int .i64 s, .slice p n1 c1], .agg #[.int .i64 t, .slice q n2 c2]] w fun e w' => e = .returned (.tuple #[.agg #[.int .i64 0, .slice none 0 0], .int .i64 1]) ∧ Below w.heap.size w w' := by
  have H1 := hid h1
  have M1 := hid m1
  have R1 := hid r1
  have G1 := hid g1
  clear h1 m1 r1 g1
  go_enter Try.func42, Try.ntmps42
  go_wp2_with fail
  refine (iIsGraph_any _ _ _ _ xs _ M1.out H1.out (R1.out.on (by go_grown))).mono ?_
  rw [decide_eq_false G1.out]
  rintro e w2 ⟨rfl, hb2⟩
  obtain ⟨hc2, hf2⟩ := bcells hb2
  have hz2 := hb2.size
  simp at hz2
  go_wp2
  refine bodyPost_ret (v := .tuple #[.agg #[.int .i64 0, .slice none 0 0], .int .i64 1]) (by simp [results, Try.results42, go_sem, hc2]) rfl ⟨rfl, ?_⟩
  have hbw := bfrom (w := w) (by go_grown) hb2
  go_grown

set_option maxRecDepth 100000 in
set_option maxHeartbeats 2000000 in
theorem iBeside_none2 (s t : Int) (p q : Option Addr) (n1 c1 n2 c2 : Nat) (xs ys : List (Int × Int)) (w : World) (h1 : xs.length = n1) (h2 : ys.length = n2) (m1 : n1 ≤ 1048576) (m2 : n2 ≤ 1048576) (r1 : SeesE w p xs) (r2 : SeesE w q ys) (g1 : IsG s xs) (g2 : ¬ IsG t ys) :
    Calls Try.prog 42 #[.agg #[.int .i64 s, .slice p n1 c1], .agg #[.int .i64 t, .slice q n2 c2]] w fun e w' => e = .returned (.tuple #[.agg #[.int .i64 0, .slice none 0 0], .int .i64 1]) ∧ Below w.heap.size w w' := by
  have H1 := hid h1
  have M1 := hid m1
  have R1 := hid r1
  have G1 := hid g1
  have H2 := hid h2
  have M2 := hid m2
  have R2 := hid r2
  have G2 := hid g2
  clear h1 m1 r1 g1 h2 m2 r2 g2
  go_enter Try.func42, Try.ntmps42
  go_wp2_with fail
  refine (iIsGraph_any _ _ _ _ xs _ M1.out H1.out (R1.out.on (by go_grown))).mono ?_
  rw [decide_eq_true G1.out]
  rintro e w2 ⟨rfl, hb2⟩
  obtain ⟨hc2, hf2⟩ := bcells hb2
  have hbw2 := bfrom (w := w) (by go_grown) hb2
  have hz2 := hb2.size
  simp at hz2
  go_wp2_with fail
  refine (iIsGraph_any _ _ _ _ ys _ M2.out H2.out (R2.out.on hbw2)).mono ?_
  rw [decide_eq_false G2.out]
  rintro e w3 ⟨rfl, hb3⟩
  obtain ⟨hc3, hf3⟩ := bcells (bfrom hb2 hb3)
  have hz3 := (bfrom hb2 hb3).size
  simp at hz3
  clear hc2 hf2
  go_wp2
  refine bodyPost_ret (v := .tuple #[.agg #[.int .i64 0, .slice none 0 0], .int .i64 1]) (by simp [results, Try.results42, go_sem, hc3]) rfl ⟨rfl, ?_⟩
  have hbw := bfrom hbw2 hb3
  go_grown

set_option maxRecDepth 100000 in
set_option maxHeartbeats 2000000 in
theorem iBeside_limit (s t : Int) (p q : Option Addr) (n1 c1 n2 c2 : Nat) (xs ys : List (Int × Int)) (w : World) (h1 : xs.length = n1) (h2 : ys.length = n2) (m1 : n1 ≤ 1048576) (m2 : n2 ≤ 1048576) (r1 : SeesE w p xs) (r2 : SeesE w q ys) (g1 : IsG s xs) (g2 : IsG t ys) (hst : 20 < s + t) :
    Calls Try.prog 42 #[.agg #[.int .i64 s, .slice p n1 c1], .agg #[.int .i64 t, .slice q n2 c2]] w fun e w' => e = .returned (.tuple #[.agg #[.int .i64 0, .slice none 0 0], .int .i64 3]) ∧ Below w.heap.size w w' := by
  have H1 := hid h1
  have M1 := hid m1
  have R1 := hid r1
  have G1 := hid g1
  have H2 := hid h2
  have M2 := hid m2
  have R2 := hid r2
  have G2 := hid g2
  have e1 : IntKind.i64.wrap (s + t) = s + t := IntWalk.i64_in _ (by have := g1.1.1.1; have := g1.1.1.2.1; have := g2.1.1.1; have := g2.1.1.2.1; omega)
  have e2 : decide ((20 : Int) < s + t) = true := by simp; omega
  clear h1 m1 r1 g1 h2 m2 r2 g2
  go_enter Try.func42, Try.ntmps42
  go_wp2_with fail
  refine (iIsGraph_any _ _ _ _ xs _ M1.out H1.out (R1.out.on (by go_grown))).mono ?_
  rw [decide_eq_true G1.out]
  rintro e w2 ⟨rfl, hb2⟩
  obtain ⟨hc2, hf2⟩ := bcells hb2
  have hbw2 := bfrom (w := w) (by go_grown) hb2
  have hz2 := hb2.size
  simp at hz2
  go_wp2_with fail
  refine (iIsGraph_any _ _ _ _ ys _ M2.out H2.out (R2.out.on hbw2)).mono ?_
  rw [decide_eq_true G2.out]
  rintro e w3 ⟨rfl, hb3⟩
  obtain ⟨hc3, hf3⟩ := bcells (bfrom hb2 hb3)
  have hz3 := (bfrom hb2 hb3).size
  simp at hz3
  clear hc2 hf2
  go_wp2
  refine bodyPost_ret (v := .tuple #[.agg #[.int .i64 0, .slice none 0 0], .int .i64 3]) (by simp [results, Try.results42, go_sem, hc3]) rfl ⟨rfl, ?_⟩
  have hbw := bfrom hbw2 hb3
  go_grown

/-- What PutBeside makes: the size, the edges and the code. -/
def fPutBeside (s : Int) (xs : List (Int × Int)) (t : Int) (ys : List (Int × Int)) : Int × List (Int × Int) × Int :=
  if IsG s xs ∧ IsG t ys then (if s + t ≤ 20 then (s + t, xs ++ upE s ys, 0) else (0, [], 3)) else (0, [], 1)

theorem fPutBeside_len (s : Int) (xs : List (Int × Int)) (t : Int) (ys : List (Int × Int)) (_ : xs.length ≤ 1048576) (_ : ys.length ≤ 1048576) : (fPutBeside s xs t ys).2.1.length ≤ 1048576 := by
  unfold fPutBeside
  split
  · rename_i h
    split
    · show (xs ++ upE s ys).length ≤ _
      have h1 := isG_len h.1
      have h2 := isG_len h.2
      rw [List.length_append, upE_length]; omega
    · simp
  · simp

theorem iPutBeside_any (s : Int) (p : Option Addr) (n1 c1 : Nat) (xs : List (Int × Int)) (t : Int) (q : Option Addr) (n2 c2 : Nat) (ys : List (Int × Int)) (w : World) (m1 : n1 ≤ 1048576) (h1 : xs.length = n1) (r1 : SeesE w p xs) (m2 : n2 ≤ 1048576) (h2 : ys.length = n2) (r2 : SeesE w q ys) :
    Calls Try.prog 42 #[.agg #[.int .i64 s, .slice p n1 c1], .agg #[.int .i64 t, .slice q n2 c2]] w fun e w' => ∃ q' cap, e = .returned (.tuple #[.agg #[.int .i64 (fPutBeside s xs t ys).1, .slice q' (fPutBeside s xs t ys).2.1.length cap], .int .i64 (fPutBeside s xs t ys).2.2]) ∧ FreshE w.heap.size w' q' (fPutBeside s xs t ys).2.1.length cap (fPutBeside s xs t ys).2.1 ∧ Below w.heap.size w w' := by
  unfold fPutBeside
  by_cases g1 : IsG s xs
  · by_cases g2 : IsG t ys
    · rw [if_pos ⟨g1, g2⟩]
      obtain ⟨b1, o1, rfl, rd1⟩ := isG_sees g1 r1
      obtain ⟨b2, o2, rfl, rd2⟩ := isG_sees g2 r2
      by_cases hst : s + t ≤ 20
      · rw [if_pos hst]
        have hl : (xs ++ upE s ys).length = n1 + n2 := by rw [List.length_append, upE_length, h1, h2]
        dsimp only
        rw [hl]
        exact iBeside_yes s t b1 o1 n1 c1 b2 o2 n2 c2 xs ys w h1 h2 m1 m2 rd1 rd2 g1 g2 hst
      · rw [if_neg hst]
        exact (iBeside_limit s t _ _ n1 c1 n2 c2 xs ys w h1 h2 m1 m2 r1 r2 g1 g2 (by omega)).mono fun e w' ⟨he, hb⟩ => ⟨none, 0, he, FreshE.nil _ _, hb⟩
    · rw [if_neg (fun e => g2 e.2)]
      exact (iBeside_none2 s t p q n1 c1 n2 c2 xs ys w h1 h2 m1 m2 r1 r2 g1 g2).mono fun e w' ⟨he, hb⟩ => ⟨none, 0, he, FreshE.nil _ _, hb⟩
  · rw [if_neg (fun e => g1 e.1)]
    exact (iBeside_none1 s t p q n1 c1 n2 c2 xs w h1 m1 r1 g1).mono fun e w' ⟨he, hb⟩ => ⟨none, 0, he, FreshE.nil _ _, hb⟩

end Go.Proofs.Ytkcljjbjlhageaa
