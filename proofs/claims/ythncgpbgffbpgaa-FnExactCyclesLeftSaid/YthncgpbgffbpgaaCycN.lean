/- CyclesLeft, in the model and in the program, at any argument. -/
import Derived.Test.YthncgpbgffbpgaaCycT
import Derived.Test.YthncgpbgffbpgaaCycM
namespace Go.Proofs.Ythncgpbgffbpgaa
open Go.RowKit Go.Shelf

set_option maxRecDepth 100000 in
set_option maxHeartbeats 2000000 in
theorem sCyclesLeft_no (s : Int) (p ps : Option Addr) (n c k f : Nat) (es : List (Int × Int)) (xs : List Int) (w : World) (hm : n ≤ 1048576) (hn : es.length = n) (hr : SeesE w p es) (hk9 : k ≤ 1048576) (hx : xs.length = k) (hrx : SeesI w ps xs) (h0 : ¬ matCode s es xs = 0) :
    Calls Try.prog 7 #[.agg #[.int .i64 s, .slice p n c], .slice ps k f] w fun e' w' => e' = .returned (.tuple #[.slice none 0 0, .int .i64 (matCode s es xs)]) ∧ Below w.heap.size w w' := by
  have Hn := hid hn
  have Hr := hid hr
  have Hx := hid hx
  have Hrx := hid hrx
  obtain ⟨q, hq⟩ : ∃ q, matCode s es xs = q := ⟨_, rfl⟩
  rw [hq] at h0 ⊢
  have hq' : (q != 0) = true := by simpa using h0
  have HQ := hid hq
  clear hn hr hx hrx hq h0
  go_enter Try.func7, Try.ntmps7
  go_wp2_with fail
  refine (sMatCode_any _ _ _ _ _ _ _ es xs _ hm Hn.out (Hr.out.on (on_alloc _ _)) hk9 Hx.out (Hrx.out.on (on_alloc _ _))).mono ?_
  rw [HQ.out]
  rintro e w2 ⟨rfl, hb2⟩
  have hB2 := bfrom (w := w) (by go_grown) hb2
  go_wp2
  go_ret2
  exact ⟨rfl, hB2⟩

set_option maxRecDepth 100000 in
set_option maxHeartbeats 2000000 in
theorem iCyclesLeft_no (s : Int) (p ps : Option Addr) (n c k f : Nat) (es : List (Int × Int)) (xs : List Int) (w : World) (hm : n ≤ 1048576) (hn : es.length = n) (hr : SeesE w p es) (hk9 : k ≤ 1048576) (hx : xs.length = k) (hrx : SeesI w ps xs) (h0 : ¬ matCode s es xs = 0) :
    Calls Try.prog 10 #[.agg #[.int .i64 s, .slice p n c], .slice ps k f] w fun e' w' => e' = .returned (.tuple #[.slice none 0 0, .int .i64 (matCode s es xs)]) ∧ Below w.heap.size w w' := by
  have Hn := hid hn
  have Hr := hid hr
  have Hx := hid hx
  have Hrx := hid hrx
  obtain ⟨q, hq⟩ : ∃ q, matCode s es xs = q := ⟨_, rfl⟩
  rw [hq] at h0 ⊢
  have hq' : (q != 0) = true := by simpa using h0
  have HQ := hid hq
  clear hn hr hx hrx hq h0
  go_enter Try.func10, Try.ntmps10
  go_wp2_with fail
  refine (iMatCode_any _ _ _ _ _ _ _ es xs _ hm Hn.out (Hr.out.on (on_alloc _ _)) hk9 Hx.out (Hrx.out.on (on_alloc _ _))).mono ?_
  rw [HQ.out]
  rintro e w2 ⟨rfl, hb2⟩
  have hB2 := bfrom (w := w) (by go_grown) hb2
  go_wp2
  go_ret2
  exact ⟨rfl, hB2⟩

theorem sCyclesLeft_any (s : Int) (p : Option Addr) (n c : Nat) (es : List (Int × Int)) (q : Option Addr) (m d : Nat) (cs : List Int) (w : World) (hm : n ≤ 1048576) (hn : es.length = n) (hr : SeesE w p es) (hm2 : m ≤ 1048576) (hl : cs.length = m) (hrc : SeesI w q cs) :
    Calls Try.prog 7 #[.agg #[.int .i64 s, .slice p n c], .slice q m d] w fun e' w' => ∃ q' cap, e' = .returned (.tuple #[.slice q' (fCyclesLeft s es cs).1.length cap, .int .i64 (fCyclesLeft s es cs).2]) ∧ FreshI w.heap.size w' q' (fCyclesLeft s es cs).1.length cap (fCyclesLeft s es cs).1 ∧ Below w.heap.size w w' := by
  unfold fCyclesLeft
  by_cases h0 : matCode s es cs = 0
  · rw [if_pos h0]
    obtain ⟨g, mt⟩ := matCode_of h0
    obtain ⟨N, rfl⟩ : ∃ N : Nat, s = N := ⟨_, (Int.toNat_of_nonneg (by have := g.1.1.1; omega)).symm⟩
    obtain ⟨b, off, rfl, rd⟩ := isG_sees g hr
    subst hn
    exact sCyclesLeft_yes N b off _ c q m d es cs w rfl rd g hl hm2 hrc mt
  · rw [if_neg h0]
    exact (sCyclesLeft_no s p q n c m d es cs w hm hn hr hm2 hl hrc h0).mono fun e w' ⟨he, hb⟩ => ⟨none, 0, he, FreshI.nil _ _, hb⟩

theorem iCyclesLeft_any (s : Int) (p : Option Addr) (n c : Nat) (es : List (Int × Int)) (q : Option Addr) (m d : Nat) (cs : List Int) (w : World) (hm : n ≤ 1048576) (hn : es.length = n) (hr : SeesE w p es) (hm2 : m ≤ 1048576) (hl : cs.length = m) (hrc : SeesI w q cs) :
    Calls Try.prog 10 #[.agg #[.int .i64 s, .slice p n c], .slice q m d] w fun e' w' => ∃ q' cap, e' = .returned (.tuple #[.slice q' (fCyclesLeft s es cs).1.length cap, .int .i64 (fCyclesLeft s es cs).2]) ∧ FreshI w.heap.size w' q' (fCyclesLeft s es cs).1.length cap (fCyclesLeft s es cs).1 ∧ Below w.heap.size w w' := by
  unfold fCyclesLeft
  by_cases h0 : matCode s es cs = 0
  · rw [if_pos h0]
    obtain ⟨g, mt⟩ := matCode_of h0
    obtain ⟨N, rfl⟩ : ∃ N : Nat, s = N := ⟨_, (Int.toNat_of_nonneg (by have := g.1.1.1; omega)).symm⟩
    obtain ⟨b, off, rfl, rd⟩ := isG_sees g hr
    subst hn
    exact iCyclesLeft_yes N b off _ c q m d es cs w rfl rd g hl hm2 hrc mt
  · rw [if_neg h0]
    exact (iCyclesLeft_no s p q n c m d es cs w hm hn hr hm2 hl hrc h0).mono fun e w' ⟨he, hb⟩ => ⟨none, 0, he, FreshI.nil _ _, hb⟩

end Go.Proofs.Ythncgpbgffbpgaa
