/- IsMatching in the model and in the program. -/
import Derived.Test.YtafiockejagapaaMatS
import Derived.Test.YtafiockejagapaaMatI
import Derived.Test.YtafiockejagapaaImplG
namespace Go.Proofs.Ytafiockejagapaa
open Go.RowKit

theorem sMatIs_any (s : Int) (p ps : Option Addr) (n c k f : Nat) (es : List (Int × Int)) (xs : List Int) (w : World) (g : IsG s es) (hn : es.length = n) (hr : SeesE w p es) (hk9 : k ≤ 1048576) (hx : xs.length = k) (hrx : SeesI w ps xs) :
    Calls Try.prog 79 #[.agg #[.int .i64 s, .slice p n c], .slice ps k f] w fun e' w' => e' = .returned (.bool (decide (isMatP s es xs))) ∧ Below w.heap.size w w' := by
  obtain ⟨N, rfl⟩ : ∃ N : Nat, s = N := ⟨_, (Int.toNat_of_nonneg (by have := g.1.1.1; omega)).symm⟩
  obtain ⟨b, off, rfl, rd⟩ := isG_sees g hr
  exact sMat_loop N b off n c k f ps es xs w hn rd hx hk9 hrx g

set_option maxRecDepth 100000 in
set_option maxHeartbeats 2000000 in
theorem sIsMat_none (s : Int) (p q : Option Addr) (n c m d : Nat) (es : List (Int × Int)) (w : World) (hn : es.length = n) (hm : n ≤ 9223372036854775807) (hr : SeesE w p es) (g : ¬ IsG s es) :
    Calls Try.prog 40 #[.agg #[.int .i64 s, .slice p n c], .slice q m d] w fun e' w' => e' = .returned (.tuple #[.bool false, .int .i64 1]) ∧ Below w.heap.size w w' := by
  have Hn := hid hn
  have Hr := hid hr
  have G := hid g
  clear hn hr g
  go_enter Try.func40, Try.ntmps40
  go_wp2_with fail
  refine (sIs_any _ _ _ _ es _ hm Hn.out (Hr.out.on (on_alloc _ _))).mono ?_
  rw [decide_eq_false G.out]
  rintro e w2 ⟨rfl, hb2⟩
  have hB2 := bfrom (w := w) (by go_grown) hb2
  go_wp2
  go_ret2
  exact ⟨rfl, hB2⟩

set_option maxRecDepth 100000 in
set_option maxHeartbeats 2000000 in
theorem sIsMat_yes (s : Int) (p q : Option Addr) (n c m d : Nat) (es : List (Int × Int)) (cs : List Int) (w : World) (hn : es.length = n) (hm : n ≤ 9223372036854775807) (hr : SeesE w p es) (hl : cs.length = m) (hm2 : m ≤ 1048576) (hrc : SeesI w q cs) (g : IsG s es) :
    Calls Try.prog 40 #[.agg #[.int .i64 s, .slice p n c], .slice q m d] w fun e' w' => e' = .returned (.tuple #[.bool (decide (isMatP s es cs)), .int .i64 0]) ∧ Below w.heap.size w w' := by
  have Hn := hid hn
  have Hr := hid hr
  have G := hid g
  have Hl := hid hl
  have Hrc := hid hrc
  have Hm2 := hid hm2
  obtain ⟨r, hR⟩ : ∃ r : Bool, decide (isMatP s es cs) = r := ⟨_, rfl⟩
  rw [hR]
  have HR := hid hR
  clear hn hr g hl hrc hm2 hR
  go_enter Try.func40, Try.ntmps40
  go_wp2_with fail
  refine (sIs_any _ _ _ _ es _ hm Hn.out (Hr.out.on (on_alloc _ _))).mono ?_
  rw [decide_eq_true G.out]
  rintro e w2 ⟨rfl, hb2⟩
  have hB2 := bfrom (w := w) (by go_grown) hb2
  obtain ⟨hc2, hf2⟩ := bcells hb2
  have hz2 : w.heap.size < w2.heap.size := by have := hb2.size; simp at this; omega
  go_wp2_with fail
  refine (sMatIs_any _ _ _ _ _ _ _ es cs _ G.out Hn.out (Hr.out.on hB2) Hm2.out Hl.out (Hrc.out.on hB2)).mono ?_
  rw [HR.out]
  rintro e w3 ⟨rfl, hb3⟩
  go_wp2
  go_ret2
  exact ⟨rfl, bfrom hB2 hb3⟩

theorem sIsMatching_any (s : Int) (p : Option Addr) (n c : Nat) (es : List (Int × Int)) (q : Option Addr) (m d : Nat) (cs : List Int) (w : World) (hm : n ≤ 1048576) (hn : es.length = n) (hr : SeesE w p es) (hm2 : m ≤ 1048576) (hl : cs.length = m) (hrc : SeesI w q cs) :
    Calls Try.prog 40 #[.agg #[.int .i64 s, .slice p n c], .slice q m d] w fun e' w' => e' = .returned (.tuple #[.bool (fIsMatching s es cs).1, .int .i64 (fIsMatching s es cs).2]) ∧ Below w.heap.size w w' := by
  unfold fIsMatching
  by_cases g : IsG s es
  · rw [if_pos g]
    exact sIsMat_yes s p q n c m d es cs w hn (by omega) hr hl hm2 hrc g
  · rw [if_neg g]
    exact sIsMat_none s p q n c m d es w hn (by omega) hr g

set_option maxRecDepth 100000 in
set_option maxHeartbeats 2000000 in
theorem iIsMat_none (s : Int) (p q : Option Addr) (n c m d : Nat) (es : List (Int × Int)) (w : World) (hn : es.length = n) (hm : n ≤ 1048576) (hr : SeesE w p es) (g : ¬ IsG s es) :
    Calls Try.prog 41 #[.agg #[.int .i64 s, .slice p n c], .slice q m d] w fun e' w' => e' = .returned (.tuple #[.bool false, .int .i64 1]) ∧ Below w.heap.size w w' := by
  have Hn := hid hn
  have Hr := hid hr
  have G := hid g
  clear hn hr g
  go_enter Try.func41, Try.ntmps41
  go_wp2_with fail
  refine (iIsGraph_any _ _ _ _ es _ hm Hn.out (Hr.out.on (on_alloc _ _))).mono ?_
  rw [decide_eq_false G.out]
  rintro e w2 ⟨rfl, hb2⟩
  have hB2 := bfrom (w := w) (by go_grown) hb2
  go_wp2
  go_ret2
  exact ⟨rfl, hB2⟩

set_option maxRecDepth 100000 in
set_option maxHeartbeats 2000000 in
theorem iIsMat_yes (s : Int) (p q : Option Addr) (n c m d : Nat) (es : List (Int × Int)) (cs : List Int) (w : World) (hn : es.length = n) (hm : n ≤ 1048576) (hr : SeesE w p es) (hl : cs.length = m) (hm2 : m ≤ 1048576) (hrc : SeesI w q cs) (g : IsG s es) :
    Calls Try.prog 41 #[.agg #[.int .i64 s, .slice p n c], .slice q m d] w fun e' w' => e' = .returned (.tuple #[.bool (decide (isMatP s es cs)), .int .i64 0]) ∧ Below w.heap.size w w' := by
  have Hn := hid hn
  have Hr := hid hr
  have G := hid g
  have Hl := hid hl
  have Hrc := hid hrc
  have Hm2 := hid hm2
  obtain ⟨r, hR⟩ : ∃ r : Bool, decide (isMatP s es cs) = r := ⟨_, rfl⟩
  rw [hR]
  have HR := hid hR
  clear hn hr g hl hrc hm2 hR
  go_enter Try.func41, Try.ntmps41
  go_wp2_with fail
  refine (iIsGraph_any _ _ _ _ es _ hm Hn.out (Hr.out.on (on_alloc _ _))).mono ?_
  rw [decide_eq_true G.out]
  rintro e w2 ⟨rfl, hb2⟩
  have hB2 := bfrom (w := w) (by go_grown) hb2
  obtain ⟨hc2, hf2⟩ := bcells hb2
  have hz2 : w.heap.size < w2.heap.size := by have := hb2.size; simp at this; omega
  go_wp2_with fail
  refine (iMatIs_any _ _ _ _ _ _ _ es cs _ G.out Hn.out (Hr.out.on hB2) Hm2.out Hl.out (Hrc.out.on hB2)).mono ?_
  rw [HR.out]
  rintro e w3 ⟨rfl, hb3⟩
  go_wp2
  go_ret2
  exact ⟨rfl, bfrom hB2 hb3⟩

theorem iIsMatching_any (s : Int) (p : Option Addr) (n c : Nat) (es : List (Int × Int)) (q : Option Addr) (m d : Nat) (cs : List Int) (w : World) (hm : n ≤ 1048576) (hn : es.length = n) (hr : SeesE w p es) (hm2 : m ≤ 1048576) (hl : cs.length = m) (hrc : SeesI w q cs) :
    Calls Try.prog 41 #[.agg #[.int .i64 s, .slice p n c], .slice q m d] w fun e' w' => e' = .returned (.tuple #[.bool (fIsMatching s es cs).1, .int .i64 (fIsMatching s es cs).2]) ∧ Below w.heap.size w w' := by
  unfold fIsMatching
  by_cases g : IsG s es
  · rw [if_pos g]
    exact iIsMat_yes s p q n c m d es cs w hn hm hr hl hm2 hrc g
  · rw [if_neg g]
    exact iIsMat_none s p q n c m d es w hn hm hr g

end Go.Proofs.Ytafiockejagapaa
