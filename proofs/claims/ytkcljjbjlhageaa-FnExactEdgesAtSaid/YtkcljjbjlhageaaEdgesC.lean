/- EdgesAt: the errors, and the model's side. -/
import Derived.Test.YtkcljjbjlhageaaEdgesB
import Derived.Test.YtkcljjbjlhageaaSpecAt
import Derived.Test.YtkcljjbjlhageaaSpecD
namespace Go.Proofs.Ytkcljjbjlhageaa
open Go.RowKit

def fEdgesAt (s : Int) (es : List (Int × Int)) (v : Int) : List Int × Int := if IsG s es then (if 0 ≤ v ∧ v < s then (atF es v, 0) else ([], 2)) else ([], 1)
theorem fEdgesAt_len (s : Int) (es : List (Int × Int)) (v : Int) (h : es.length ≤ 1048576) : (fEdgesAt s es v).1.length ≤ 1048576 := by
  unfold fEdgesAt
  split
  · split
    · exact Nat.le_trans (atU_len es v es.length) h
    · simp
  · simp

set_option maxRecDepth 100000 in
set_option maxHeartbeats 2000000 in
theorem iEdgesAt_none (s v : Int) (p : Option Addr) (n c : Nat) (es : List (Int × Int)) (w : World) (hm : n ≤ 1048576) (hn : es.length = n) (hr : SeesE w p es) (g : ¬ IsG s es) :
    Calls Try.prog 16 #[.agg #[.int .i64 s, .slice p n c], .int .i64 v] w fun e w' => e = .returned (.tuple #[.slice none 0 0, .int .i64 1]) ∧ Below w.heap.size w w' := by
  have Hn := hid hn
  have Hr := hid hr
  have G := hid g
  clear hn hr g
  go_enter Try.func16, Try.ntmps16
  go_wp2_with fail
  refine (iIsGraph_any _ _ _ _ es _ hm Hn.out (Hr.out.on (on_alloc _ _))).mono ?_
  rw [decide_eq_false G.out]
  rintro e w2 ⟨rfl, hb2⟩
  have hB2 := bfrom (w := w) (by go_grown) hb2
  go_wp2
  go_ret2
  exact ⟨rfl, hB2⟩

set_option maxRecDepth 100000 in
set_option maxHeartbeats 2000000 in
theorem iEdgesAt_range (s v : Int) (p : Option Addr) (n c : Nat) (es : List (Int × Int)) (w : World) (hm : n ≤ 1048576) (hn : es.length = n) (hr : SeesE w p es) (g : IsG s es) (hv : ¬ (0 ≤ v ∧ v < s)) :
    Calls Try.prog 16 #[.agg #[.int .i64 s, .slice p n c], .int .i64 v] w fun e w' => e = .returned (.tuple #[.slice none 0 0, .int .i64 2]) ∧ Below w.heap.size w w' := by
  have Hn := hid hn
  have Hr := hid hr
  have G := hid g
  have Hv := hid hv
  clear hn hr g hv
  go_enter Try.func16, Try.ntmps16
  go_wp2_with fail
  refine (iIsGraph_any _ _ _ _ es _ hm Hn.out (Hr.out.on (on_alloc _ _))).mono ?_
  rw [decide_eq_true G.out]
  rintro e w2 ⟨rfl, hb2⟩
  have hB2 := bfrom (w := w) (by go_grown) hb2
  have hX2 := (Box.new w s p n c 31).on hb2
  have hx2 := hX2.1
  have hz2 := hX2.lt
  go_wp2_with (go_at_call 50; refine (iBelow_no _ _ _ Hv.out).mono ?_; rintro e' w' ⟨rfl, rfl⟩)
  go_ret2
  exact ⟨rfl, hB2⟩

theorem iEdgesAt_any (s : Int) (p : Option Addr) (n c : Nat) (es : List (Int × Int)) (v : Int) (w : World) (hm : n ≤ 1048576) (hl : es.length = n) (hr : SeesE w p es) :
    Calls Try.prog 16 #[.agg #[.int .i64 s, .slice p n c], .int .i64 v] w fun e w' => ∃ q cap, e = .returned (.tuple #[.slice q (fEdgesAt s es v).1.length cap, .int .i64 (fEdgesAt s es v).2]) ∧ FreshI w.heap.size w' q (fEdgesAt s es v).1.length cap (fEdgesAt s es v).1 ∧ Below w.heap.size w w' := by
  unfold fEdgesAt
  by_cases g : IsG s es
  · rw [if_pos g]
    by_cases hv : 0 ≤ v ∧ v < s
    · rw [if_pos hv]
      obtain ⟨b, off, rfl, rd⟩ := isG_sees g hr
      exact iEdgesAt_yes s v b off n c es w (by have := isG_len g; omega) hl rd g hv
    · rw [if_neg hv]
      exact (iEdgesAt_range s v p n c es w hm hl hr g hv).mono fun e w' ⟨he, hb⟩ => ⟨none, 0, he, FreshI.nil _ _, hb⟩
  · rw [if_neg g]
    exact (iEdgesAt_none s v p n c es w hm hl hr g).mono fun e w' ⟨he, hb⟩ => ⟨none, 0, he, FreshI.nil _ _, hb⟩

set_option maxRecDepth 100000 in
set_option maxHeartbeats 2000000 in
theorem sEdgesAt_code (s v q : Int) (p : Option Addr) (n c : Nat) (es : List (Int × Int)) (w : World) (hm : n ≤ 9223372036854775807) (hlen : es.length = n) (hr : SeesE w p es) (hV : vertsCode s es [v] = q) (hq : (q == 0) = false) :
    Calls Try.prog 14 #[.agg #[.int .i64 s, .slice p n c], .int .i64 v] w fun e' w' => e' = .returned (.tuple #[.slice none 0 0, .int .i64 q]) ∧ Below w.heap.size w w' := by
  have Hl := hid hlen
  have Hr := hid hr
  have HV := hid hV
  have hq' : (q != 0) = true := by simpa using hq
  clear hlen hr hV
  go_enter Try.func14, Try.ntmps14
  go_wp2_with (go_at_call 46; refine (sVerts_any _ _ _ _ _ _ 1 _ es [v] _ hm Hl.out ((Hr.out.alloc _).alloc _) rfl (by omega) (reads_one _ _ _ _ (by simp))).mono ?_; rw [HV.out]; rintro e' w2 ⟨rfl, hb2⟩; obtain ⟨hc2, hf2⟩ := bcells hb2; have hB2 := bfrom (w := w) (by go_grown) hb2)
  go_ret2
  exact ⟨rfl, hB2⟩

set_option maxRecDepth 100000 in
set_option maxHeartbeats 2000000 in
theorem sEdgesAt_yes (s v : Int) (b off n c : Nat) (es : List (Int × Int)) (w : World) (hm : n ≤ 30) (hlen : es.length = n) (hr : ReadsE w b off es) (hV : vertsCode s es [v] = 0) :
    Calls Try.prog 14 #[.agg #[.int .i64 s, .slice (some ⟨b, off, none⟩) n c], .int .i64 v] w fun e w' => ∃ q cap, e = .returned (.tuple #[.slice q (atF es v).length cap, .int .i64 0]) ∧ FreshI w.heap.size w' q (atF es v).length cap (atF es v) ∧ Below w.heap.size w w' := by
  have Hl := hid hlen
  have Hr := hid hr
  have HV := hid hV
  clear hlen hr hV
  go_enter Try.func14, Try.ntmps14
  go_wp2_with fail
  refine (sVerts_any _ _ _ _ _ _ 1 _ es [v] _ (by omega) Hl.out (SeesE.on (.inr ⟨b, off, rfl, Hr.out⟩) (bfrom (on_alloc _ _) (on_alloc _ _))) rfl (by omega) (reads_one _ _ _ _ (by simp))).mono ?_
  rw [HV.out]
  rintro e' w2 ⟨rfl, hb2⟩
  have hB2 := bfrom (w := w) (bfrom (on_alloc _ _) (on_alloc _ _)) hb2
  have hX2 := ((Box.new w s (some ⟨b, off, none⟩) n c 31).on (on_alloc _ (.cells #[.int .i64 v] 2))).on hb2
  have hx2 := hX2.1
  have hy2 := hX2.2
  have hz2 := hX2.lt
  go_wp2_with fail
  refine (sAt_any _ _ _ _ _ _ es _ Hl.out hm (Hr.out.on hB2)).mono ?_
  rintro e' w3 ⟨q, cap, rfl, hf3, hb3⟩
  go_wp2
  go_ret2
  exact ⟨q, cap, rfl, hf3.less (by have := hB2.size; omega), bfrom hB2 hb3⟩

theorem sEdgesAt_any (s : Int) (p : Option Addr) (n c : Nat) (es : List (Int × Int)) (v : Int) (w : World) (hm : n ≤ 1048576) (hl : es.length = n) (hr : SeesE w p es) :
    Calls Try.prog 14 #[.agg #[.int .i64 s, .slice p n c], .int .i64 v] w fun e w' => ∃ q cap, e = .returned (.tuple #[.slice q (fEdgesAt s es v).1.length cap, .int .i64 (fEdgesAt s es v).2]) ∧ FreshI w.heap.size w' q (fEdgesAt s es v).1.length cap (fEdgesAt s es v).1 ∧ Below w.heap.size w w' := by
  have hV := verts_one s es v
  unfold fEdgesAt
  by_cases g : IsG s es
  · rw [if_pos g] at hV ⊢
    by_cases hv : 0 ≤ v ∧ v < s
    · rw [if_pos hv] at hV ⊢
      obtain ⟨b, off, rfl, rd⟩ := isG_sees g hr
      exact sEdgesAt_yes s v b off n c es w (by have := isG_len g; omega) hl rd hV
    · rw [if_neg hv] at hV ⊢
      exact (sEdgesAt_code s v 2 p n c es w (by omega) hl hr hV rfl).mono fun e w' ⟨he, hb⟩ => ⟨none, 0, he, FreshI.nil _ _, hb⟩
  · rw [if_neg g] at hV ⊢
    exact (sEdgesAt_code s v 1 p n c es w (by omega) hl hr hV rfl).mono fun e w' ⟨he, hb⟩ => ⟨none, 0, he, FreshI.nil _ _, hb⟩

end Go.Proofs.Ytkcljjbjlhageaa
