/- The laws' functions over desks: sizes, copies, comparisons. -/
import Derived.Test.YtpadnliebimceaaLawsF
import Derived.Deep.RegionWith
namespace Go.Proofs.Ytpadnliebimceaa
open Go.RowKit

/-- A desk's cells in a block. -/
def Box4 (w : World) (B : Nat) (s : Int) (p0 : Option Addr) (n0 c0 : Nat) (p1 : Option Addr) (n1 c1 : Nat) (p2 : Option Addr) (n2 c2 : Nat) : Prop :=
  w.cell? ⟨B, 0, none⟩ = some (.int .i64 s) ∧ w.cell? ⟨B, 1, none⟩ = some (.slice p0 n0 c0) ∧ w.cell? ⟨B, 2, none⟩ = some (.slice p1 n1 c1) ∧ w.cell? ⟨B, 3, none⟩ = some (.slice p2 n2 c2)
section
variable {w w' : World} {B n0 c0 n1 c1 n2 c2 : Nat} {s : Int} {p0 p1 p2 : Option Addr}
theorem Box4.lt (h : Box4 w B s p0 n0 c0 p1 n1 c1 p2 n2 c2) : B < w.heap.size := World.block_lt_of_cell? w _ h.1
theorem Box4.on (h : Box4 w B s p0 n0 c0 p1 n1 c1 p2 n2 c2) (hb : Below w.heap.size w w') : Box4 w' B s p0 n0 c0 p1 n1 c1 p2 n2 c2 :=
  ⟨((bcells hb).1 _ _ h.lt).trans h.1, ((bcells hb).1 _ _ h.lt).trans h.2.1, ((bcells hb).1 _ _ h.lt).trans h.2.2.1, ((bcells hb).1 _ _ h.lt).trans h.2.2.2⟩
theorem Box4.new (w : World) (s : Int) (p0 : Option Addr) (n0 c0 : Nat) (p1 : Option Addr) (n1 c1 : Nat) (p2 : Option Addr) (n2 c2 : Nat) (t : TypeId) : Box4 (w.alloc (.cells #[.int .i64 s, .slice p0 n0 c0, .slice p1 n1 c1, .slice p2 n2 c2] t)) w.heap.size s p0 n0 c0 p1 n1 c1 p2 n2 c2 := ⟨by simp, by simp, by simp, by simp⟩
theorem Box4.far (h : Box4 w B s p0 n0 c0 p1 n1 c1 p2 n2 c2) {a : Addr} (ha : B ≠ a.block) (v : Value) : Box4 (w.setCell a v) B s p0 n0 c0 p1 n1 c1 p2 n2 c2 :=
  have k := fun o => World.cell?_of_block (w := w) (a := ⟨B, o, none⟩) (heap_setCell_other w a B v ha)
  ⟨(k 0).trans h.1, (k 1).trans h.2.1, (k 2).trans h.2.2.1, (k 3).trans h.2.2.2⟩
theorem Box4.drew (h : Box4 w B s p0 n0 c0 p1 n1 c1 p2 n2 c2) : Box4 w.drew B s p0 n0 c0 p1 n1 c1 p2 n2 c2 := h
end

set_option maxRecDepth 100000 in
set_option maxHeartbeats 2000000 in
theorem szIntsD_any (p : Option Addr) (c n : Nat) (R : Int) (w : World) (hR0 : 0 ≤ R) (hR : R ≤ 1048576) (hn : n ≤ 9223372036854775807) :
    Calls Try.prog 40 #[.slice p n c, .int .i64 R] w fun e w' => e = .returned (.int .i64 (if R < (n : Int) then -1 else R - n)) ∧ w = w' := by
  by_cases h : R < (n : Int)
  · have h2 : R - (n : Int) < 0 := by omega
    rw [if_pos h]
    clear h
    go_enter Try.func40, Try.ntmps40
    go_wp2
    go_ret
    exact ⟨rfl, rfl⟩
  · have h2 : ¬ (R - (n : Int) < 0) := by omega
    rw [if_neg h]
    have HH := hid h
    clear h
    go_enter Try.func40, Try.ntmps40
    go_wp2
    go_ret
    exact ⟨rfl, rfl⟩

set_option maxRecDepth 100000 in
set_option maxHeartbeats 1000000 in
theorem szDesk_fit (s : Int) (p0 : Option Addr) (n0 c0 : Nat) (p1 : Option Addr) (n1 c1 : Nat) (p2 : Option Addr) (n2 c2 : Nat) (R : Int) (w : World) (hR : R ≤ 1048576) (hf : (n0 : Int) + n1 + n2 ≤ R) :
    Calls Try.prog 14 #[.agg #[.int .i64 s, .slice p0 n0 c0, .slice p1 n1 c1, .slice p2 n2 c2], .int .i64 R] w fun e w' => e = .returned (.int .i64 (R - (n0 : Int) - n1 - n2)) ∧ Below w.heap.size w w' := by
  have A0 := hid (show ¬ R < n0 by omega)
  have A1 := hid (show ¬ (R - (n0 : Int)) < n1 by omega)
  have A2 := hid (show ¬ (R - (n0 : Int) - n1) < n2 by omega)
  have b0 : ¬ (R - (n0 : Int)) < 0 := by omega
  have b1 : ¬ (R - (n0 : Int) - n1) < 0 := by omega
  have b2 : ¬ (R - (n0 : Int) - n1 - n2) < 0 := by omega
  go_enter Try.func14, Try.ntmps14
  go_wp2_with fail
  refine (szGraph_any _ _ _ _ _ _ (by omega) (by omega) (by omega)).mono ?_
  rw [if_neg (by have h := A0.out; omega)]
  rintro e w2 ⟨rfl, hb2⟩
  have HB2 := hid (bfrom (on_alloc _ _) hb2)
  obtain ⟨hc, hf2⟩ := bcells hb2
  have hz := hb2.size
  simp only [World.size_alloc] at hz
  clear hb2
  go_wp2_with fail
  refine (szIntsD_any _ _ _ _ _ (by omega) (by omega) (by omega)).mono ?_
  rw [if_neg (by have h := A1.out; omega)]
  rintro e w3 ⟨rfl, rfl⟩
  go_wp2_with fail
  refine (szIntsD_any _ _ _ _ _ (by omega) (by omega) (by omega)).mono ?_
  rw [if_neg (by have h := A2.out; omega)]
  rintro e w3 ⟨rfl, rfl⟩
  go_wp2_with fail
  go_ret
  exact ⟨rfl, HB2.out⟩

set_option maxRecDepth 100000 in
set_option maxHeartbeats 1000000 in
theorem szDesk_big0 (s : Int) (p0 : Option Addr) (n0 c0 : Nat) (p1 : Option Addr) (n1 c1 : Nat) (p2 : Option Addr) (n2 c2 : Nat) (R : Int) (w : World) (hR0 : 0 ≤ R) (hR : R ≤ 1048576) (hm : n0 ≤ 9223372036854775807) (hf : R < n0) :
    Calls Try.prog 14 #[.agg #[.int .i64 s, .slice p0 n0 c0, .slice p1 n1 c1, .slice p2 n2 c2], .int .i64 R] w fun e w' => e = .returned (.int .i64 (-1)) ∧ Below w.heap.size w w' := by
  have A0 := hid hf
  clear hf
  go_enter Try.func14, Try.ntmps14
  go_wp2_with fail
  refine (szGraph_any _ _ _ _ _ _ (by omega) (by omega) (by omega)).mono ?_
  rw [if_pos (by have h := A0.out; omega)]
  rintro e w2 ⟨rfl, hb2⟩
  have HB2 := hid (bfrom (on_alloc _ _) hb2)
  clear hb2
  go_wp2_with fail
  go_ret
  exact ⟨rfl, HB2.out⟩

set_option maxRecDepth 100000 in
set_option maxHeartbeats 1000000 in
theorem szDesk_big1 (s : Int) (p0 : Option Addr) (n0 c0 : Nat) (p1 : Option Addr) (n1 c1 : Nat) (p2 : Option Addr) (n2 c2 : Nat) (R : Int) (w : World) (hR0 : 0 ≤ R) (hR : R ≤ 1048576) (hm : n0 ≤ 9223372036854775807) (hm1 : n1 ≤ 9223372036854775807) (h0 : (n0 : Int) ≤ R) (hf : R - n0 < n1) :
    Calls Try.prog 14 #[.agg #[.int .i64 s, .slice p0 n0 c0, .slice p1 n1 c1, .slice p2 n2 c2], .int .i64 R] w fun e w' => e = .returned (.int .i64 (-1)) ∧ Below w.heap.size w w' := by
  have A0 := hid (show ¬ R < n0 by omega)
  have A1 := hid hf
  have b0 : ¬ (R - (n0 : Int)) < 0 := by omega
  clear hf
  go_enter Try.func14, Try.ntmps14
  go_wp2_with fail
  refine (szGraph_any _ _ _ _ _ _ (by omega) (by omega) (by omega)).mono ?_
  rw [if_neg (by have h := A0.out; omega)]
  rintro e w2 ⟨rfl, hb2⟩
  have HB2 := hid (bfrom (on_alloc _ _) hb2)
  obtain ⟨hc, hf2⟩ := bcells hb2
  have hz := hb2.size
  simp only [World.size_alloc] at hz
  clear hb2
  go_wp2_with fail
  refine (szIntsD_any _ _ _ _ _ (by omega) (by omega) (by omega)).mono ?_
  rw [if_pos (by have h := A1.out; omega)]
  rintro e w3 ⟨rfl, rfl⟩
  go_wp2_with fail
  go_ret
  exact ⟨rfl, HB2.out⟩

set_option maxRecDepth 100000 in
set_option maxHeartbeats 1000000 in
theorem szDesk_big2 (s : Int) (p0 : Option Addr) (n0 c0 : Nat) (p1 : Option Addr) (n1 c1 : Nat) (p2 : Option Addr) (n2 c2 : Nat) (R : Int) (w : World) (hR0 : 0 ≤ R) (hR : R ≤ 1048576) (hm : n0 ≤ 9223372036854775807) (hm1 : n1 ≤ 9223372036854775807) (hm2 : n2 ≤ 9223372036854775807) (h0 : (n0 : Int) ≤ R) (h1 : (n1 : Int) ≤ R - n0) (hf : R - n0 - n1 < n2) :
    Calls Try.prog 14 #[.agg #[.int .i64 s, .slice p0 n0 c0, .slice p1 n1 c1, .slice p2 n2 c2], .int .i64 R] w fun e w' => e = .returned (.int .i64 (-1)) ∧ Below w.heap.size w w' := by
  have A0 := hid (show ¬ R < n0 by omega)
  have A1 := hid (show ¬ (R - (n0 : Int)) < n1 by omega)
  have A2 := hid hf
  have b0 : ¬ (R - (n0 : Int)) < 0 := by omega
  have b1 : ¬ (R - (n0 : Int) - n1) < 0 := by omega
  clear hf
  go_enter Try.func14, Try.ntmps14
  go_wp2_with fail
  refine (szGraph_any _ _ _ _ _ _ (by omega) (by omega) (by omega)).mono ?_
  rw [if_neg (by have h := A0.out; omega)]
  rintro e w2 ⟨rfl, hb2⟩
  have HB2 := hid (bfrom (on_alloc _ _) hb2)
  obtain ⟨hc, hf2⟩ := bcells hb2
  have hz := hb2.size
  simp only [World.size_alloc] at hz
  clear hb2
  go_wp2_with fail
  refine (szIntsD_any _ _ _ _ _ (by omega) (by omega) (by omega)).mono ?_
  rw [if_neg (by have h := A1.out; omega)]
  rintro e w3 ⟨rfl, rfl⟩
  go_wp2_with fail
  refine (szIntsD_any _ _ _ _ _ (by omega) (by omega) (by omega)).mono ?_
  rw [if_pos (by have h := A2.out; omega)]
  rintro e w3 ⟨rfl, rfl⟩
  go_wp2_with fail
  go_ret
  exact ⟨rfl, HB2.out⟩

/-- The size of a desk: it fits, or it does not. -/
theorem szDesk_out (s : Int) (p0 : Option Addr) (n0 c0 : Nat) (p1 : Option Addr) (n1 c1 : Nat) (p2 : Option Addr) (n2 c2 : Nat) (R : Int) (w : World) (hR0 : 0 ≤ R) (hR : R ≤ 1048576) (hm : n0 ≤ 9223372036854775807) (hm1 : n1 ≤ 9223372036854775807) (hm2 : n2 ≤ 9223372036854775807) (hf : R < (n0 : Int) + n1 + n2) :
    Calls Try.prog 14 #[.agg #[.int .i64 s, .slice p0 n0 c0, .slice p1 n1 c1, .slice p2 n2 c2], .int .i64 R] w fun e w' => e = .returned (.int .i64 (-1)) ∧ Below w.heap.size w w' := by
  by_cases h0 : R < n0
  · exact szDesk_big0 s p0 n0 c0 p1 n1 c1 p2 n2 c2 R w hR0 hR hm h0
  · by_cases h1 : R - n0 < n1
    · exact szDesk_big1 s p0 n0 c0 p1 n1 c1 p2 n2 c2 R w hR0 hR hm hm1 (by omega) h1
    · exact szDesk_big2 s p0 n0 c0 p1 n1 c1 p2 n2 c2 R w hR0 hR hm hm1 hm2 (by omega) (by omega) (by omega)

theorem free_cellD (w : World) (c : Array Value) (t : TypeId) (o b : Nat) (hb : b = w.heap.size) : (w.alloc (.cells c t)).frozen? ⟨b, o, none⟩ = false := by subst hb; simp

set_option maxRecDepth 100000 in
set_option maxHeartbeats 2000000 in
theorem toDesk_any (s : Int) (p0 : Option Addr) (n0 c0 : Nat) (es : List (Int × Int)) (p1 : Option Addr) (n1 c1 : Nat) (xs : List Int) (p2 : Option Addr) (n2 c2 : Nat) (ys : List Int) (w : World)
    (h0 : es.length = n0) (m0 : n0 ≤ 1048576) (r0 : SeesE w p0 es) (h1 : xs.length = n1) (m1 : n1 ≤ 1048576) (r1 : SeesI w p1 xs) (h2 : ys.length = n2) (m2 : n2 ≤ 1048576) (r2 : SeesI w p2 ys) :
    Calls Try.prog 16 #[.agg #[.int .i64 s, .slice p0 n0 c0, .slice p1 n1 c1, .slice p2 n2 c2]] w fun e w' => ∃ g0 g1 g2, e = .returned (.agg #[.int .i64 s, .slice (some ⟨g0, 0, none⟩) n0 n0, .slice (some ⟨g1, 0, none⟩) n1 n1, .slice (some ⟨g2, 0, none⟩) n2 n2]) ∧
      (SeesE w' (some ⟨g0, 0, none⟩) es ∧ SeesI w' (some ⟨g1, 0, none⟩) xs ∧ SeesI w' (some ⟨g2, 0, none⟩) ys) ∧ Below w.heap.size w w' := by
  have H0 := hid h0
  have R0 := hid r0
  have H1 := hid h1
  have R1 := hid r1
  have H2 := hid h2
  have R2 := hid r2
  clear h0 r0 h1 r1 h2 r2
  go_enter Try.func16, Try.ntmps16
  go_wp2_with fail
  refine (toGraph_any _ _ _ _ es _ H0.out m0 (R0.out.on ?_)).mono ?_
  · exact bfrom (bfrom (on_alloc _ _) (on_alloc _ _)) (on_alloc _ _)
  rintro e w1 ⟨g0, rfl, hg0, ho0, hb1⟩
  have HB1 := hid (bfrom (w := w) (bfrom (bfrom (on_alloc _ _) (on_alloc _ _)) (on_alloc _ _)) hb1)
  obtain ⟨hc1, hf1⟩ := bcells hb1
  have hz1 := hb1.size
  simp only [World.size_alloc] at hz1 hg0
  have HO0 := hid ho0
  have HZ1 : Hid (Box4 w1 (w.heap.size + 1) 0 none 0 0 none 0 0 none 0 0) := hid (by
    have h := ((Box4.new (w.alloc (.cells #[.int .i64 s, .slice p0 n0 c0, .slice p1 n1 c1, .slice p2 n2 c2] 36)) 0 none 0 0 none 0 0 none 0 0 27).on (on_alloc _ (.cells #[.int .i64 0, .slice none 0 0, .slice none 0 0, .slice none 0 0] 27))).on hb1
    simpa only [World.size_alloc] using h)
  have hl1 : w.heap.size + 1 + 1 < w1.heap.size := by omega
  have hl1a : w.heap.size + 1 < w1.heap.size := by omega
  have hl1b : w.heap.size < w1.heap.size := by omega
  clear ho0 hb1
  go_wp2_with fail
  refine (toInts_sees _ _ _ xs _ H1.out m1 (R1.out.on ?_)).mono ?_
  · have h := HB1.out; go_grown
  rintro e w2 ⟨g1, rfl, hg1, ho1, hb2⟩
  have HB2 := hid (bfrom (w := w) (by have h := HB1.out; go_grown) hb2)
  have HO02 : Hid (OwnE w2 g0 n0 es) := hid (OwnE.on (OwnE.far (OwnE.far HO0.out (by simp; omega) _) (by simp; omega) _) hb2)
  obtain ⟨hc2, hf2⟩ := bcells hb2
  have hz2 := hb2.size
  simp only [World.size_setCell] at hz2 hg1
  have HO1 := hid ho1
  have HZ2 : Hid (Box4 w2 (w.heap.size + 1) 0 none 0 0 none 0 0 none 0 0) := hid (((HZ1.out.far (by simp) _).far (by simp) _).on hb2)
  have hl2 : w.heap.size + 1 + 1 < w2.heap.size := by omega
  have hl2a : w.heap.size + 1 < w2.heap.size := by omega
  have hl2b : w.heap.size < w2.heap.size := by omega
  clear ho1 hb2 HO0 HB1
  go_wp2_with fail
  refine (toInts_sees _ _ _ ys _ H2.out m2 (R2.out.on ?_)).mono ?_
  · have h := HB2.out; go_grown
  rintro e w3 ⟨g2, rfl, hg2, ho2, hb3⟩
  have HB3 := hid (bfrom (w := w) (by have h := HB2.out; go_grown) hb3)
  have HO03 : Hid (OwnE w3 g0 n0 es) := hid (OwnE.on (OwnE.far HO02.out (by simp; omega) _) hb3)
  have HO13 : Hid (OwnI w3 g1 n1 xs) := hid (OwnI.on (OwnI.far HO1.out (by simp; omega) _) hb3)
  obtain ⟨hc3, hf3⟩ := bcells hb3
  have hz3 := hb3.size
  simp only [World.size_setCell] at hz3 hg2
  have HO2 := hid ho2
  have HZ3 : Hid (Box4 w3 (w.heap.size + 1) 0 none 0 0 none 0 0 none 0 0) := hid ((HZ2.out.far (by simp) _).on hb3)
  have hl3 : w.heap.size + 1 + 1 < w3.heap.size := by omega
  have hl3a : w.heap.size + 1 < w3.heap.size := by omega
  have hl3b : w.heap.size < w3.heap.size := by omega
  clear ho2 hb3 HO02 HO1 HB2
  go_wp2_with fail
  have hz3a := HZ3.out.1
  have hz3b := HZ3.out.2.1
  have hz3c := HZ3.out.2.2.1
  have hz3d := HZ3.out.2.2.2
  refine bodyPost_ret (v := .agg #[.int .i64 s, .slice (some ⟨g0, 0, none⟩) n0 n0, .slice (some ⟨g1, 0, none⟩) n1 n1, .slice (some ⟨g2, 0, none⟩) n2 n2]) (by simp [results, Try.results16, go_sem, hz3a, hz3b, hz3c, hz3d]) rfl ⟨g0, g1, g2, rfl, ⟨?_, ?_, ?_⟩, ?_⟩
  · refine OwnE.sees (cap := n0) (OwnE.far (OwnE.far (OwnE.far (OwnE.far (OwnE.far HO03.out ?_ _) ?_ _) ?_ _) ?_ _) ?_ _) <;> simp <;> omega
  · refine OwnI.sees (cap := n1) (OwnI.far (OwnI.far (OwnI.far (OwnI.far (OwnI.far HO13.out ?_ _) ?_ _) ?_ _) ?_ _) ?_ _) <;> simp <;> omega
  · refine OwnI.sees (cap := n2) (OwnI.far (OwnI.far (OwnI.far (OwnI.far (OwnI.far HO2.out ?_ _) ?_ _) ?_ _) ?_ _) ?_ _) <;> simp <;> omega
  · have h := HB3.out; go_grown

set_option maxRecDepth 100000 in
set_option maxHeartbeats 2000000 in
theorem eqDesk_self (s : Int) (p0 q0 : Option Addr) (n0 c0 d0 : Nat) (es : List (Int × Int)) (p1 q1 : Option Addr) (n1 c1 d1 : Nat) (xs : List Int) (p2 q2 : Option Addr) (n2 c2 d2 : Nat) (ys : List Int) (w : World)
    (h0 : es.length = n0) (m0 : n0 ≤ 1048576) (r0 : SeesE w p0 es) (t0 : SeesE w q0 es) (h1 : xs.length = n1) (m1 : n1 ≤ 1048576) (r1 : SeesI w p1 xs) (t1 : SeesI w q1 xs) (h2 : ys.length = n2) (m2 : n2 ≤ 1048576) (r2 : SeesI w p2 ys) (t2 : SeesI w q2 ys) :
    Calls Try.prog 11 #[.agg #[.int .i64 s, .slice p0 n0 c0, .slice p1 n1 c1, .slice p2 n2 c2], .agg #[.int .i64 s, .slice q0 n0 d0, .slice q1 n1 d1, .slice q2 n2 d2]] w fun e w' => e = .returned (.bool true) ∧ Below w.heap.size w w' := by
  have H0 := hid h0
  have R0 := hid (And.intro r0 t0)
  have H1 := hid h1
  have R1 := hid (And.intro r1 t1)
  have H2 := hid h2
  have R2 := hid (And.intro r2 t2)
  clear h0 r0 t0 h1 r1 t1 h2 r2 t2
  go_enter Try.func11, Try.ntmps11
  go_wp2_with fail
  refine (eqGraph_self _ _ _ _ _ _ es _ H0.out (by omega) (R0.out.1.on (bfrom (on_alloc _ _) (on_alloc _ _))) (R0.out.2.on (bfrom (on_alloc _ _) (on_alloc _ _)))).mono ?_
  rintro e w1 ⟨rfl, hb1⟩
  have HB1 := hid (bfrom (w := w) (bfrom (on_alloc _ _) (on_alloc _ _)) hb1)
  obtain ⟨hc1, hf1⟩ := bcells hb1
  have hz1 := hb1.size
  simp only [World.size_alloc] at hz1
  have hl1a : w.heap.size + 1 < w1.heap.size := by omega
  have hl1b : w.heap.size < w1.heap.size := by omega
  clear hb1
  go_wp2_with fail
  refine (eqInts_self _ _ _ _ _ xs _ H1.out (by omega) (R1.out.1.on HB1.out) (R1.out.2.on HB1.out)).mono ?_
  rintro e w2 ⟨rfl, hb2⟩
  have HB2 := hid (bfrom HB1.out hb2)
  obtain ⟨hc2, hf2⟩ := bcells hb2
  have hz2 := hb2.size
  have hl2a : w.heap.size + 1 < w2.heap.size := by omega
  have hl2b : w.heap.size < w2.heap.size := by omega
  clear hb2 HB1
  go_wp2_with fail
  refine (eqInts_self _ _ _ _ _ ys _ H2.out (by omega) (R2.out.1.on HB2.out) (R2.out.2.on HB2.out)).mono ?_
  rintro e w3 ⟨rfl, hb3⟩
  have HB3 := hid (bfrom HB2.out hb3)
  clear hb3
  go_wp2_with fail
  go_ret
  exact ⟨rfl, HB3.out⟩

end Go.Proofs.Ytpadnliebimceaa
