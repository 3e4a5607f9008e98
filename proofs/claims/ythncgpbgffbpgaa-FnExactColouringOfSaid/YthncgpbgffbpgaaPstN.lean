/- ColouringOf, in the model and in the program, at any argument. -/
import Derived.Test.YthncgpbgffbpgaaPstS
import Derived.Test.YthncgpbgffbpgaaPstI
namespace Go.Proofs.Ythncgpbgffbpgaa
open Go.RowKit Go.Shelf

set_option maxRecDepth 100000 in
set_option maxHeartbeats 2000000 in
theorem sColouringOf_no (s : Int) (p ps : Option Addr) (n c k f : Nat) (es : List (Int × Int)) (xs : List Int) (w : World) (hm : n ≤ 1048576) (hn : es.length = n) (hr : SeesE w p es) (hk9 : k ≤ 1048576) (hx : xs.length = k) (hrx : SeesI w ps xs) (h0 : ¬ matCode s es xs = 0) :
    Calls Try.prog 16 #[.agg #[.int .i64 s, .slice p n c], .slice ps k f] w fun e' w' => e' = .returned (.tuple #[.slice none 0 0, .int .i64 (matCode s es xs)]) ∧ Below w.heap.size w w' := by
  have Hn := hid hn
  have Hr := hid hr
  have Hx := hid hx
  have Hrx := hid hrx
  obtain ⟨q, hq⟩ : ∃ q, matCode s es xs = q := ⟨_, rfl⟩
  rw [hq] at h0 ⊢
  have hq' : (q != 0) = true := by simpa using h0
  have HQ := hid hq
  clear hn hr hx hrx hq h0
  go_enter Try.func16, Try.ntmps16
  go_wp2_with fail
  refine (sMatCode_any _ _ _ _ _ _ _ es xs _ hm Hn.out (Hr.out.on (on_alloc _ _)) hk9 Hx.out (Hrx.out.on (on_alloc _ _))).mono ?_
  rw [HQ.out]
  rintro e w2 ⟨rfl, hb2⟩
  have hB2 := bfrom (w := w) (by go_grown) hb2
  go_wp2
  go_ret2
  exact ⟨rfl, hB2⟩

set_option maxRecDepth 100000 in
set_option maxHeartbeats 2000000 in
theorem iColouringOf_no (s : Int) (p ps : Option Addr) (n c k f : Nat) (es : List (Int × Int)) (xs : List Int) (w : World) (hm : n ≤ 1048576) (hn : es.length = n) (hr : SeesE w p es) (hk9 : k ≤ 1048576) (hx : xs.length = k) (hrx : SeesI w ps xs) (h0 : ¬ matCode s es xs = 0) :
    Calls Try.prog 17 #[.agg #[.int .i64 s, .slice p n c], .slice ps k f] w fun e' w' => e' = .returned (.tuple #[.slice none 0 0, .int .i64 (matCode s es xs)]) ∧ Below w.heap.size w w' := by
  have Hn := hid hn
  have Hr := hid hr
  have Hx := hid hx
  have Hrx := hid hrx
  obtain ⟨q, hq⟩ : ∃ q, matCode s es xs = q := ⟨_, rfl⟩
  rw [hq] at h0 ⊢
  have hq' : (q != 0) = true := by simpa using h0
  have HQ := hid hq
  have HB0 := hid (show Below w.heap.size w (((w.alloc (.cells #[.int .i64 s, .slice p n c] 31)).alloc (.cells #[.slice none 0 0] 25)).alloc (.cells #[.int .i64 0] 2)) from bfrom (bfrom (on_alloc _ _) (on_alloc _ _)) (on_alloc _ _))
  have hR4 := (Boxed.new (w.alloc (.cells #[.int .i64 s, .slice p n c] 31)) 25 (.slice none 0 0)).alloc (.cells #[.int .i64 0] 2)
  have hR5 := Boxed.new ((w.alloc (.cells #[.int .i64 s, .slice p n c] 31)).alloc (.cells #[.slice none 0 0] 25)) 2 (.int .i64 0)
  simp only [World.size_alloc] at hR4 hR5
  have HR4 := hid hR4
  have HR5 := hid hR5
  clear hn hr hx hrx hq h0 hR4 hR5
  go_enter Try.func17, Try.ntmps17
  go_wp2_with fail
  refine (iMatCode_any _ _ _ _ _ _ _ es xs _ hm Hn.out (Hr.out.on HB0.out) hk9 Hx.out (Hrx.out.on HB0.out)).mono ?_
  rw [HQ.out]
  rintro e w2 ⟨rfl, hb2⟩
  have HB2 := hid (bfrom HB0.out hb2)
  have hq4 : Boxed w2 (w.heap.size + 1) 25 (.slice none 0 0) := (hb2.block (w.heap.size + 1) (by simp)).trans HR4.out
  have hq5 : Boxed w2 (w.heap.size + 1 + 1) 2 (.int .i64 0) := (hb2.block (w.heap.size + 1 + 1) (by simp)).trans HR5.out
  have hc4 := hq4.cell
  have hc5 := hq5.cell
  have hf4 := hq4.frozen
  have hf5 := hq5.frozen
  have hz4 := hq4.lt
  have hz5 := hq5.lt
  clear hb2
  go_wp2
  refine bodyPost_ret (results_colour rfl _ _ (w.heap.size + 1) (w.heap.size + 1 + 1) _ _ _ _ rfl rfl ((Boxed.set _ hq4).other (by omega) _) (Boxed.set _ (hq5.other (by omega) _))) rfl ?_
  exact ⟨rfl, (HB2.out.setCell (p := ⟨w.heap.size + 1, 0, none⟩) (by show w.heap.size ≤ w.heap.size + 1; omega) _).setCell (p := ⟨w.heap.size + 1 + 1, 0, none⟩) (by show w.heap.size ≤ w.heap.size + 1 + 1; omega) _⟩

theorem sColouringOf_any (s : Int) (p : Option Addr) (n c : Nat) (es : List (Int × Int)) (q : Option Addr) (m d : Nat) (cs : List Int) (w : World) (hm : n ≤ 1048576) (hn : es.length = n) (hr : SeesE w p es) (hm2 : m ≤ 1048576) (hl : cs.length = m) (hrc : SeesI w q cs) :
    Calls Try.prog 16 #[.agg #[.int .i64 s, .slice p n c], .slice q m d] w fun e' w' => ∃ q' cap, e' = .returned (.tuple #[.slice q' (fColouringOf s es cs).1.length cap, .int .i64 (fColouringOf s es cs).2]) ∧ FreshI w.heap.size w' q' (fColouringOf s es cs).1.length cap (fColouringOf s es cs).1 ∧ Below w.heap.size w w' := by
  unfold fColouringOf
  by_cases h0 : matCode s es cs = 0
  · rw [if_pos h0]
    obtain ⟨g, mt⟩ := matCode_of h0
    obtain ⟨N, rfl⟩ : ∃ N : Nat, s = N := ⟨_, (Int.toNat_of_nonneg (by have := g.1.1.1; omega)).symm⟩
    obtain ⟨b, off, rfl, rd⟩ := isG_sees g hr
    subst hn
    exact sColouringOf_yes N b off _ c q m d es cs w rfl rd g hl hm2 hrc mt
  · rw [if_neg h0]
    exact (sColouringOf_no s p q n c m d es cs w hm hn hr hm2 hl hrc h0).mono fun e w' ⟨he, hb⟩ => ⟨none, 0, he, FreshI.nil _ _, hb⟩

theorem iColouringOf_any (s : Int) (p : Option Addr) (n c : Nat) (es : List (Int × Int)) (q : Option Addr) (m d : Nat) (cs : List Int) (w : World) (hm : n ≤ 1048576) (hn : es.length = n) (hr : SeesE w p es) (hm2 : m ≤ 1048576) (hl : cs.length = m) (hrc : SeesI w q cs) :
    Calls Try.prog 17 #[.agg #[.int .i64 s, .slice p n c], .slice q m d] w fun e' w' => ∃ q' cap, e' = .returned (.tuple #[.slice q' (fColouringOf s es cs).1.length cap, .int .i64 (fColouringOf s es cs).2]) ∧ FreshI w.heap.size w' q' (fColouringOf s es cs).1.length cap (fColouringOf s es cs).1 ∧ Below w.heap.size w w' := by
  unfold fColouringOf
  by_cases h0 : matCode s es cs = 0
  · rw [if_pos h0]
    obtain ⟨g, mt⟩ := matCode_of h0
    obtain ⟨N, rfl⟩ : ∃ N : Nat, s = N := ⟨_, (Int.toNat_of_nonneg (by have := g.1.1.1; omega)).symm⟩
    obtain ⟨b, off, rfl, rd⟩ := isG_sees g hr
    subst hn
    exact iColouringOf_yes N b off _ c m d q es cs w rfl rd g hl hm2 hrc mt
  · rw [if_neg h0]
    exact (iColouringOf_no s p q n c m d es cs w hm hn hr hm2 hl hrc h0).mono fun e w' ⟨he, hb⟩ => ⟨none, 0, he, FreshI.nil _ _, hb⟩

end Go.Proofs.Ythncgpbgffbpgaa
