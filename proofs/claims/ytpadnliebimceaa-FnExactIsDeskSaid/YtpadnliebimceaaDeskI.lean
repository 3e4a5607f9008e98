/- IsDesk: the program and the model tell the same of a graph, a colouring and a matching. -/
import Derived.Test.YtpadnliebimceaaColT
import Derived.Test.YtpadnliebimceaaColI
import Derived.Test.YtpadnliebimceaaMatJ
import Derived.Test.YtpadnliebimceaaDeskL
namespace Go.Proofs.Ytpadnliebimceaa
open Go.RowKit

/-- A graph with a colouring, or none, and a matching, or none. -/
def fIsDesk (s : Int) (es : List (Int × Int)) (xs ys : List Int) : Bool := decide (IsG s es) && ((xs.length == 0 || decide (isColP es xs)) && (ys.length == 0 || decide (isMatP s es ys)))

set_option maxRecDepth 100000 in
set_option maxHeartbeats 4000000 in
theorem sIsDesk_any (s : Int) (p0 : Option Addr) (n0 c0 : Nat) (es : List (Int × Int)) (p1 : Option Addr) (n1 c1 : Nat) (xs : List Int) (p2 : Option Addr) (n2 c2 : Nat) (ys : List Int) (w : World)
    (h0 : es.length = n0) (m0 : n0 ≤ 1048576) (r0 : SeesE w p0 es) (h1 : xs.length = n1) (m1 : n1 ≤ 1048576) (r1 : SeesI w p1 xs) (h2 : ys.length = n2) (m2 : n2 ≤ 1048576) (r2 : SeesI w p2 ys) :
    Calls Try.prog 15 #[.agg #[.int .i64 s, .slice p0 n0 c0, .slice p1 n1 c1, .slice p2 n2 c2]] w fun e w' => e = .returned (.bool (fIsDesk s es xs ys)) ∧ Below w.heap.size w w' := by
  unfold fIsDesk
  rw [h1, h2]
  have H0 := hid h0
  have R0 := hid r0
  have H1 := hid h1
  have R1 := hid r1
  have H2 := hid h2
  have R2 := hid r2
  clear h0 r0 h1 r1 h2 r2
  by_cases g : IsG s es
  · rw [decide_eq_true g, Bool.true_and]
    obtain ⟨bc, hbc⟩ : ∃ bc, decide (isColP es xs) = bc := ⟨_, rfl⟩
    obtain ⟨bm, hbm⟩ : ∃ bm, decide (isMatP s es ys) = bm := ⟨_, rfl⟩
    rw [hbc, hbm]
    have G := hid g
    have HC := hid hbc
    have HM := hid hbm
    clear g hbc hbm
    by_cases e1 : n1 = 0
    · subst e1
      by_cases e2 : n2 = 0
      · subst e2
        go_enter Try.func15, Try.ntmps15
        go_wp2_with fail
        refine (sIs_any _ _ _ _ es _ (by omega) H0.out (R0.out.on (on_alloc _ _))).mono ?_
        rw [decide_eq_true G.out]
        rintro e w1 ⟨rfl, hb1⟩
        have HB1 := hid (bfrom (w := w) (on_alloc _ _) hb1)
        obtain ⟨hc1, hf1⟩ := bcells hb1
        have hz1 := hb1.size
        simp only [World.size_alloc] at hz1
        have hl1 : w.heap.size < w1.heap.size := by omega
        clear hb1
        go_wp2_with fail
        go_ret
        exact ⟨by first | rfl | (show Ending.returned (.bool ((n2 : Int) == 0 || bm)) = _; rw [e2c]; rfl), HB1.out⟩
      · have e2' : ¬ (n2 : Int) = 0 := by omega
        have e2c : ((n2 : Int) == 0) = false := by simpa using e2
        have e2b : (n2 == 0) = false := by simpa using e2
        rw [e2b]
        go_enter Try.func15, Try.ntmps15
        go_wp2_with fail
        refine (sIs_any _ _ _ _ es _ (by omega) H0.out (R0.out.on (on_alloc _ _))).mono ?_
        rw [decide_eq_true G.out]
        rintro e w1 ⟨rfl, hb1⟩
        have HB1 := hid (bfrom (w := w) (on_alloc _ _) hb1)
        obtain ⟨hc1, hf1⟩ := bcells hb1
        have hz1 := hb1.size
        simp only [World.size_alloc] at hz1
        have hl1 : w.heap.size < w1.heap.size := by omega
        clear hb1
        go_wp2_with fail
        refine (sMatIs_any _ _ _ _ _ _ _ es ys _ G.out H0.out (R0.out.on HB1.out) m2 H2.out (R2.out.on HB1.out)).mono ?_
        rw [HM.out]
        rintro e w2 ⟨rfl, hb2⟩
        have HB2 := hid (bfrom HB1.out hb2)
        clear hb2
        go_wp2_with fail
        go_ret
        exact ⟨by first | rfl | (show Ending.returned (.bool ((n2 : Int) == 0 || bm)) = _; rw [e2c]; rfl), HB2.out⟩
    · have e1' : ¬ (n1 : Int) = 0 := by omega
      have e1b : (n1 == 0) = false := by simpa using e1
      rw [e1b, Bool.false_or]
      by_cases e2 : n2 = 0
      · subst e2
        cases bc <;> (
          go_enter Try.func15, Try.ntmps15
          go_wp2_with fail
          refine (sIs_any _ _ _ _ es _ (by omega) H0.out (R0.out.on (on_alloc _ _))).mono ?_
          rw [decide_eq_true G.out]
          rintro e w1 ⟨rfl, hb1⟩
          have HB1 := hid (bfrom (w := w) (on_alloc _ _) hb1)
          obtain ⟨hc1, hf1⟩ := bcells hb1
          have hz1 := hb1.size
          simp only [World.size_alloc] at hz1
          have hl1 : w.heap.size < w1.heap.size := by omega
          clear hb1
          go_wp2_with fail
          refine (sColIs_any _ _ _ _ _ _ _ es xs _ G.out H0.out (R0.out.on HB1.out) H1.out m1 (R1.out.on HB1.out)).mono ?_
          rw [HC.out]
          rintro e w2 ⟨rfl, hb2⟩
          have HB2 := hid (bfrom HB1.out hb2)
          obtain ⟨hc2, hf2⟩ := bcells hb2
          clear hb2
          go_wp2_with fail
          go_ret
          exact ⟨by first | rfl | (show Ending.returned (.bool ((n2 : Int) == 0 || bm)) = _; rw [e2c]; rfl), HB2.out⟩)
      · have e2' : ¬ (n2 : Int) = 0 := by omega
        have e2c : ((n2 : Int) == 0) = false := by simpa using e2
        have e2b : (n2 == 0) = false := by simpa using e2
        rw [e2b]
        cases bc
        · go_enter Try.func15, Try.ntmps15
          go_wp2_with fail
          refine (sIs_any _ _ _ _ es _ (by omega) H0.out (R0.out.on (on_alloc _ _))).mono ?_
          rw [decide_eq_true G.out]
          rintro e w1 ⟨rfl, hb1⟩
          have HB1 := hid (bfrom (w := w) (on_alloc _ _) hb1)
          obtain ⟨hc1, hf1⟩ := bcells hb1
          have hz1 := hb1.size
          simp only [World.size_alloc] at hz1
          have hl1 : w.heap.size < w1.heap.size := by omega
          clear hb1
          go_wp2_with fail
          refine (sColIs_any _ _ _ _ _ _ _ es xs _ G.out H0.out (R0.out.on HB1.out) H1.out m1 (R1.out.on HB1.out)).mono ?_
          rw [HC.out]
          rintro e w2 ⟨rfl, hb2⟩
          have HB2 := hid (bfrom HB1.out hb2)
          clear hb2
          go_wp2_with fail
          go_ret
          exact ⟨by first | rfl | (show Ending.returned (.bool ((n2 : Int) == 0 || bm)) = _; rw [e2c]; rfl), HB2.out⟩
        · go_enter Try.func15, Try.ntmps15
          go_wp2_with fail
          refine (sIs_any _ _ _ _ es _ (by omega) H0.out (R0.out.on (on_alloc _ _))).mono ?_
          rw [decide_eq_true G.out]
          rintro e w1 ⟨rfl, hb1⟩
          have HB1 := hid (bfrom (w := w) (on_alloc _ _) hb1)
          obtain ⟨hc1, hf1⟩ := bcells hb1
          have hz1 := hb1.size
          simp only [World.size_alloc] at hz1
          have hl1 : w.heap.size < w1.heap.size := by omega
          clear hb1
          go_wp2_with fail
          refine (sColIs_any _ _ _ _ _ _ _ es xs _ G.out H0.out (R0.out.on HB1.out) H1.out m1 (R1.out.on HB1.out)).mono ?_
          rw [HC.out]
          rintro e w2 ⟨rfl, hb2⟩
          have HB2 := hid (bfrom HB1.out hb2)
          obtain ⟨hc2, hf2⟩ := bcells hb2
          have hz2 := hb2.size
          have hl2 : w.heap.size < w2.heap.size := by omega
          clear hb2
          go_wp2_with fail
          refine (sMatIs_any _ _ _ _ _ _ _ es ys _ G.out H0.out (R0.out.on HB2.out) m2 H2.out (R2.out.on HB2.out)).mono ?_
          rw [HM.out]
          rintro e w3 ⟨rfl, hb3⟩
          have HB3 := hid (bfrom HB2.out hb3)
          clear hb3
          go_wp2_with fail
          go_ret
          exact ⟨by first | rfl | (show Ending.returned (.bool ((n2 : Int) == 0 || bm)) = _; rw [e2c]; rfl), HB3.out⟩
  · rw [decide_eq_false g, Bool.false_and]
    have G := hid g
    clear g
    go_enter Try.func15, Try.ntmps15
    go_wp2_with fail
    refine (sIs_any _ _ _ _ es _ (by omega) H0.out (R0.out.on (on_alloc _ _))).mono ?_
    rw [decide_eq_false G.out]
    rintro e w1 ⟨rfl, hb1⟩
    have HB1 := hid (bfrom (w := w) (on_alloc _ _) hb1)
    clear hb1
    go_wp2_with fail
    go_ret
    exact ⟨by first | rfl | (show Ending.returned (.bool ((n2 : Int) == 0 || bm)) = _; rw [e2c]; rfl), HB1.out⟩

set_option maxRecDepth 100000 in
set_option maxHeartbeats 4000000 in
theorem iIsDesk_any (s : Int) (p0 : Option Addr) (n0 c0 : Nat) (es : List (Int × Int)) (p1 : Option Addr) (n1 c1 : Nat) (xs : List Int) (p2 : Option Addr) (n2 c2 : Nat) (ys : List Int) (w : World)
    (h0 : es.length = n0) (m0 : n0 ≤ 1048576) (r0 : SeesE w p0 es) (h1 : xs.length = n1) (m1 : n1 ≤ 1048576) (r1 : SeesI w p1 xs) (h2 : ys.length = n2) (m2 : n2 ≤ 1048576) (r2 : SeesI w p2 ys) :
    Calls Try.prog 17 #[.agg #[.int .i64 s, .slice p0 n0 c0, .slice p1 n1 c1, .slice p2 n2 c2]] w fun e w' => e = .returned (.bool (fIsDesk s es xs ys)) ∧ Below w.heap.size w w' := by
  unfold fIsDesk
  rw [h1, h2]
  have H0 := hid h0
  have R0 := hid r0
  have H1 := hid h1
  have R1 := hid r1
  have H2 := hid h2
  have R2 := hid r2
  clear h0 r0 h1 r1 h2 r2
  by_cases g : IsG s es
  · rw [decide_eq_true g, Bool.true_and]
    obtain ⟨bc, hbc⟩ : ∃ bc, decide (isColP es xs) = bc := ⟨_, rfl⟩
    obtain ⟨bm, hbm⟩ : ∃ bm, decide (isMatP s es ys) = bm := ⟨_, rfl⟩
    rw [hbc, hbm]
    have G := hid g
    have HC := hid hbc
    have HM := hid hbm
    clear g hbc hbm
    by_cases e1 : n1 = 0
    · subst e1
      by_cases e2 : n2 = 0
      · subst e2
        go_enter Try.func17, Try.ntmps17
        go_wp2_with fail
        refine (iIsGraph_any _ _ _ _ es _ (by omega) H0.out (R0.out.on (on_alloc _ _))).mono ?_
        rw [decide_eq_true G.out]
        rintro e w1 ⟨rfl, hb1⟩
        have HB1 := hid (bfrom (w := w) (on_alloc _ _) hb1)
        obtain ⟨hc1, hf1⟩ := bcells hb1
        have hz1 := hb1.size
        simp only [World.size_alloc] at hz1
        have hl1 : w.heap.size < w1.heap.size := by omega
        clear hb1
        go_wp2_with fail
        go_ret
        exact ⟨by first | rfl | (show Ending.returned (.bool ((n2 : Int) == 0 || bm)) = _; rw [e2c]; rfl), HB1.out⟩
      · have e2' : ¬ (n2 : Int) = 0 := by omega
        have e2c : ((n2 : Int) == 0) = false := by simpa using e2
        have e2b : (n2 == 0) = false := by simpa using e2
        rw [e2b]
        go_enter Try.func17, Try.ntmps17
        go_wp2_with fail
        refine (iIsGraph_any _ _ _ _ es _ (by omega) H0.out (R0.out.on (on_alloc _ _))).mono ?_
        rw [decide_eq_true G.out]
        rintro e w1 ⟨rfl, hb1⟩
        have HB1 := hid (bfrom (w := w) (on_alloc _ _) hb1)
        obtain ⟨hc1, hf1⟩ := bcells hb1
        have hz1 := hb1.size
        simp only [World.size_alloc] at hz1
        have hl1 : w.heap.size < w1.heap.size := by omega
        clear hb1
        go_wp2_with fail
        refine (iMatIs_any _ _ _ _ _ _ _ es ys _ G.out H0.out (R0.out.on HB1.out) m2 H2.out (R2.out.on HB1.out)).mono ?_
        rw [HM.out]
        rintro e w2 ⟨rfl, hb2⟩
        have HB2 := hid (bfrom HB1.out hb2)
        clear hb2
        go_wp2_with fail
        go_ret
        exact ⟨by first | rfl | (show Ending.returned (.bool ((n2 : Int) == 0 || bm)) = _; rw [e2c]; rfl), HB2.out⟩
    · have e1' : ¬ (n1 : Int) = 0 := by omega
      have e1b : (n1 == 0) = false := by simpa using e1
      rw [e1b, Bool.false_or]
      by_cases e2 : n2 = 0
      · subst e2
        cases bc <;> (
          go_enter Try.func17, Try.ntmps17
          go_wp2_with fail
          refine (iIsGraph_any _ _ _ _ es _ (by omega) H0.out (R0.out.on (on_alloc _ _))).mono ?_
          rw [decide_eq_true G.out]
          rintro e w1 ⟨rfl, hb1⟩
          have HB1 := hid (bfrom (w := w) (on_alloc _ _) hb1)
          obtain ⟨hc1, hf1⟩ := bcells hb1
          have hz1 := hb1.size
          simp only [World.size_alloc] at hz1
          have hl1 : w.heap.size < w1.heap.size := by omega
          clear hb1
          go_wp2_with fail
          refine (iColIs_any _ _ _ _ _ _ _ es xs _ G.out H0.out (R0.out.on HB1.out) H1.out m1 (R1.out.on HB1.out)).mono ?_
          rw [HC.out]
          rintro e w2 ⟨rfl, hb2⟩
          have HB2 := hid (bfrom HB1.out hb2)
          obtain ⟨hc2, hf2⟩ := bcells hb2
          clear hb2
          go_wp2_with fail
          go_ret
          exact ⟨by first | rfl | (show Ending.returned (.bool ((n2 : Int) == 0 || bm)) = _; rw [e2c]; rfl), HB2.out⟩)
      · have e2' : ¬ (n2 : Int) = 0 := by omega
        have e2c : ((n2 : Int) == 0) = false := by simpa using e2
        have e2b : (n2 == 0) = false := by simpa using e2
        rw [e2b]
        cases bc
        · go_enter Try.func17, Try.ntmps17
          go_wp2_with fail
          refine (iIsGraph_any _ _ _ _ es _ (by omega) H0.out (R0.out.on (on_alloc _ _))).mono ?_
          rw [decide_eq_true G.out]
          rintro e w1 ⟨rfl, hb1⟩
          have HB1 := hid (bfrom (w := w) (on_alloc _ _) hb1)
          obtain ⟨hc1, hf1⟩ := bcells hb1
          have hz1 := hb1.size
          simp only [World.size_alloc] at hz1
          have hl1 : w.heap.size < w1.heap.size := by omega
          clear hb1
          go_wp2_with fail
          refine (iColIs_any _ _ _ _ _ _ _ es xs _ G.out H0.out (R0.out.on HB1.out) H1.out m1 (R1.out.on HB1.out)).mono ?_
          rw [HC.out]
          rintro e w2 ⟨rfl, hb2⟩
          have HB2 := hid (bfrom HB1.out hb2)
          clear hb2
          go_wp2_with fail
          go_ret
          exact ⟨by first | rfl | (show Ending.returned (.bool ((n2 : Int) == 0 || bm)) = _; rw [e2c]; rfl), HB2.out⟩
        · go_enter Try.func17, Try.ntmps17
          go_wp2_with fail
          refine (iIsGraph_any _ _ _ _ es _ (by omega) H0.out (R0.out.on (on_alloc _ _))).mono ?_
          rw [decide_eq_true G.out]
          rintro e w1 ⟨rfl, hb1⟩
          have HB1 := hid (bfrom (w := w) (on_alloc _ _) hb1)
          obtain ⟨hc1, hf1⟩ := bcells hb1
          have hz1 := hb1.size
          simp only [World.size_alloc] at hz1
          have hl1 : w.heap.size < w1.heap.size := by omega
          clear hb1
          go_wp2_with fail
          refine (iColIs_any _ _ _ _ _ _ _ es xs _ G.out H0.out (R0.out.on HB1.out) H1.out m1 (R1.out.on HB1.out)).mono ?_
          rw [HC.out]
          rintro e w2 ⟨rfl, hb2⟩
          have HB2 := hid (bfrom HB1.out hb2)
          obtain ⟨hc2, hf2⟩ := bcells hb2
          have hz2 := hb2.size
          have hl2 : w.heap.size < w2.heap.size := by omega
          clear hb2
          go_wp2_with fail
          refine (iMatIs_any _ _ _ _ _ _ _ es ys _ G.out H0.out (R0.out.on HB2.out) m2 H2.out (R2.out.on HB2.out)).mono ?_
          rw [HM.out]
          rintro e w3 ⟨rfl, hb3⟩
          have HB3 := hid (bfrom HB2.out hb3)
          clear hb3
          go_wp2_with fail
          go_ret
          exact ⟨by first | rfl | (show Ending.returned (.bool ((n2 : Int) == 0 || bm)) = _; rw [e2c]; rfl), HB3.out⟩
  · rw [decide_eq_false g, Bool.false_and]
    have G := hid g
    clear g
    go_enter Try.func17, Try.ntmps17
    go_wp2_with fail
    refine (iIsGraph_any _ _ _ _ es _ (by omega) H0.out (R0.out.on (on_alloc _ _))).mono ?_
    rw [decide_eq_false G.out]
    rintro e w1 ⟨rfl, hb1⟩
    have HB1 := hid (bfrom (w := w) (on_alloc _ _) hb1)
    clear hb1
    go_wp2_with fail
    go_ret
    exact ⟨by first | rfl | (show Ending.returned (.bool ((n2 : Int) == 0 || bm)) = _; rw [e2c]; rfl), HB1.out⟩

end Go.Proofs.Ytpadnliebimceaa
