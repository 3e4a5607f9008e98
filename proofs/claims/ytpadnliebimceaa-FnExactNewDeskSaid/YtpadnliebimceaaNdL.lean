/- The laws' marks on a desk with no colouring and no matching. -/
import Derived.Test.YtpadnliebimceaaDeskL
namespace Go.Proofs.Ytpadnliebimceaa
open Go.RowKit

theorem Box4.kept {w w' : World} {B n0 c0 n1 c1 n2 c2 : Nat} {s : Int} {p0 p1 p2 : Option Addr} {row : Option Nat} (h : Box4 w B s p0 n0 c0 p1 n1 c1 p2 n2 c2) (hg : w.grownBy w' row) (hne : some B ≠ row) : Box4 w' B s p0 n0 c0 p1 n1 c1 p2 n2 c2 :=
  ⟨hg.cell h.1 hne, hg.cell h.2.1 hne, hg.cell h.2.2.1 hne, hg.cell h.2.2.2 hne⟩

set_option maxRecDepth 100000 in
set_option maxHeartbeats 1000000 in
theorem heldInts_nil (p : Option Addr) (c : Nat) (k0 : Int) (w : World) :
    Calls Try.prog 39 #[.slice p 0 c, .int .i64 k0] w fun e w' => e = .returned (.int .i64 k0) ∧ w = w' := by
  go_enter Try.func39, Try.ntmps39
  go_wp2
  go_rounds 1
  go_ret
  exact ⟨rfl, rfl⟩

set_option maxRecDepth 100000 in
set_option maxHeartbeats 2000000 in
theorem markDesk_k {B : Nat} (n cap : Nat) (s : Int) (q : Option Addr) (p1 p2 : Option Addr) (c1 c2 : Nat) (es : List (Int × Int)) (w : World) (hlen : n ≤ 1048576) (h : FreshE B w q n cap es) :
    Calls Try.prog 12 #[.agg #[.int .i64 s, .slice q n cap, .slice p1 0 c1, .slice p2 0 c2], .int .i64 1] w fun e w' => e = .returned (.int .i64 (1 + 2 * n)) ∧ FreshE B w' q n cap (marksE 1 n) ∧ w.grownBy w' (Value.slice q n cap).ownBlock := by
  have Hh := hid h
  have Hl := hid hlen
  clear h hlen
  go_enter Try.func12, Try.ntmps12
  go_wp2_with fail
  refine (markGraph_k n cap s q 1 es _ Hl.out (by omega) (by omega) (Hh.out.on (on_alloc _ _))).mono ?_
  rintro e w2 ⟨rfl, hf2, hg2⟩
  have HX2 : Hid (Box4 w2 w.heap.size s q n cap p1 0 c1 p2 0 c2) := hid ((Box4.new w s q n cap p1 0 c1 p2 0 c2 27).kept hg2 (fun e => by have := (Hh.out.own e.symm).2; omega))
  have HF2 := hid hf2
  have HG2 := hid hg2
  clear hf2 hg2
  have hx0 := HX2.out.1
  have hx1 := HX2.out.2.1
  have hx2 := HX2.out.2.2.1
  have hx3 := HX2.out.2.2.2
  have hxl := HX2.out.lt
  go_wp2_with fail
  refine (markInts_nil _ _ _ _).mono ?_
  rintro e w3 ⟨rfl, rfl⟩
  go_wp2_with fail
  refine (markInts_nil _ _ _ _).mono ?_
  rintro e w3 ⟨rfl, rfl⟩
  go_wp2_with fail
  go_ret
  refine ⟨rfl, HF2.out, ?_⟩
  have h1 := HG2.out
  exact ⟨h1.os, h1.tape, h1.output, by have := h1.size; simp at this; omega, fun k hk hne => (h1.block k (by simp; omega) hne).trans (Below.heap_alloc w _ k hk)⟩

set_option maxRecDepth 100000 in
set_option maxHeartbeats 2000000 in
theorem heldDesk_sees (n c : Nat) (s : Int) (q : Option Addr) (p1 p2 : Option Addr) (c1 c2 : Nat) (w : World) (hlen : n ≤ 1048576) (h : SeesE w q (marksE 1 n)) :
    Calls Try.prog 13 #[.agg #[.int .i64 s, .slice q n c, .slice p1 0 c1, .slice p2 0 c2], .int .i64 1] w fun e w' => e = .returned (.int .i64 (1 + 2 * n)) ∧ Below w.heap.size w w' := by
  have Hh := hid h
  have Hl := hid hlen
  have hneg : decide ((1 : Int) + 2 * n < 0) = false := by simp; omega
  clear h hlen
  go_enter Try.func13, Try.ntmps13
  go_wp2_with fail
  refine (heldGraph_sees n c s q _ Hl.out (Hh.out.on (on_alloc _ _))).mono ?_
  rintro e w2 ⟨rfl, hb2⟩
  have HX2 : Hid (Box4 w2 w.heap.size s q n c p1 0 c1 p2 0 c2) := hid ((Box4.new w s q n c p1 0 c1 p2 0 c2 27).on hb2)
  have HB2 := hid (bfrom (w := w) (on_alloc _ _) hb2)
  clear hb2
  have hx0 := HX2.out.1
  have hx1 := HX2.out.2.1
  have hx2 := HX2.out.2.2.1
  have hx3 := HX2.out.2.2.2
  have hxl := HX2.out.lt
  go_wp2_with fail
  refine (heldInts_nil _ _ _ _).mono ?_
  rintro e w3 ⟨rfl, rfl⟩
  go_wp2_with fail
  refine (heldInts_nil _ _ _ _).mono ?_
  rintro e w3 ⟨rfl, rfl⟩
  go_wp2_with fail
  go_ret
  exact ⟨rfl, HB2.out⟩

end Go.Proofs.Ytpadnliebimceaa
