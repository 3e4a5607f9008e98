/- CutEdge at any arguments, both sides. -/
import Derived.Test.YtemhbbggnednpaaCeM
import Derived.Test.YtemhbbggnednpaaCeI
namespace Go.Proofs.Ytemhbbggnednpaa
open Go.RowKit

def fCutEdge (s : Int) (es : List (Int × Int)) (e : Int) : Int × List (Int × Int) × Int :=
  if IsG s es then (if 0 ≤ e ∧ e < es.length then cutR s es e.toNat else (0, [], 2)) else (0, [], 1)
theorem fCutEdge_len (s : Int) (es : List (Int × Int)) (e : Int) (h1 : es.length ≤ 1048576) : (fCutEdge s es e).2.1.length ≤ 1048576 := by
  unfold fCutEdge
  split
  · rename_i g
    split
    · unfold cutR
      split
      · show (sortE (cutM es e.toNat)).length ≤ _
        rw [sortE_length]
        have a := (cutM_len es e.toNat).2
        have c := isG_len g
        omega
      · exact Nat.zero_le _
    · exact Nat.zero_le _
  · exact Nat.zero_le _

set_option maxRecDepth 100000 in
set_option maxHeartbeats 2000000 in
theorem iCe_none (s e : Int) (p : Option Addr) (n c : Nat) (es : List (Int × Int)) (w : World) (hm : n ≤ 1048576) (hn : es.length = n) (hr : SeesE w p es) (g : ¬ IsG s es) :
    Calls Try.prog 12 #[.agg #[.int .i64 s, .slice p n c], .int .i64 e] w fun e' w' => e' = .returned (.tuple #[.agg #[.int .i64 0, .slice none 0 0], .int .i64 1]) ∧ Below w.heap.size w w' := by
  have Hn := hid hn
  have Hr := hid hr
  have G := hid g
  clear hn hr g
  go_enter Try.func12, Try.ntmps12
  go_wp2_with fail
  refine (iIsGraph_any _ _ _ _ es _ hm Hn.out (Hr.out.on (bfrom (on_alloc _ _) (on_alloc _ _)))).mono ?_
  rw [decide_eq_false G.out]
  rintro e' w2 ⟨rfl, hb2⟩
  have HB2 := hid (bfrom (w := w) (bfrom (on_alloc _ _) (on_alloc _ _)) hb2)
  have HK2 := hid ((GBox.new _ (w.heap.size + 1) (by simp) : GBox _ _ 0 none 0 0).on hb2)
  clear hb2
  have hkx := HK2.out.box.1
  have hky := HK2.out.box.2
  have hfx := HK2.out.frozen 0
  have hfy := HK2.out.frozen 1
  have hlk := HK2.out.lt
  go_wp2
  refine bodyPost_ret (v := .tuple #[.agg #[.int .i64 0, .slice none 0 0], .int .i64 1]) (by simp [results, Try.results12, go_sem, hkx, hky]) rfl ⟨rfl, ?_⟩
  have h := HB2.out
  go_grown

set_option maxRecDepth 100000 in
set_option maxHeartbeats 2000000 in
theorem iCe_range (s e : Int) (p : Option Addr) (n c : Nat) (es : List (Int × Int)) (w : World) (hm : n ≤ 1048576) (hn : es.length = n) (hr : SeesE w p es) (g : IsG s es) (h : ¬ (0 ≤ e ∧ e < (n : Int))) :
    Calls Try.prog 12 #[.agg #[.int .i64 s, .slice p n c], .int .i64 e] w fun e' w' => e' = .returned (.tuple #[.agg #[.int .i64 0, .slice none 0 0], .int .i64 2]) ∧ Below w.heap.size w w' := by
  have Hn := hid hn
  have Hr := hid hr
  have G := hid g
  have HH := hid h
  clear hn hr g h
  go_enter Try.func12, Try.ntmps12
  go_wp2_with fail
  refine (iIsGraph_any _ _ _ _ es _ hm Hn.out (Hr.out.on (bfrom (on_alloc _ _) (on_alloc _ _)))).mono ?_
  rw [decide_eq_true G.out]
  rintro e' w2 ⟨rfl, hb2⟩
  have HB2 := hid (bfrom (w := w) (bfrom (on_alloc _ _) (on_alloc _ _)) hb2)
  have HG2 := hid (((GBox.new w w.heap.size rfl : GBox _ _ s p n c).on (on_alloc _ _)).on hb2)
  have HK2 := hid ((GBox.new _ (w.heap.size + 1) (by simp) : GBox _ _ 0 none 0 0).on hb2)
  clear hb2
  have hxb := HG2.out.box.1
  have hyb := HG2.out.box.2
  have hlb := HG2.out.lt
  have hkx := HK2.out.box.1
  have hky := HK2.out.box.2
  have hfx := HK2.out.frozen 0
  have hfy := HK2.out.frozen 1
  have hlk := HK2.out.lt
  go_wp2_with fail
  refine (iBelow_no _ _ _ HH.out).mono ?_
  rintro e' w' ⟨rfl, rfl⟩
  go_wp2
  refine bodyPost_ret (v := .tuple #[.agg #[.int .i64 0, .slice none 0 0], .int .i64 2]) (by simp [results, Try.results12, go_sem, hkx, hky]) rfl ⟨rfl, ?_⟩
  have h := HB2.out
  go_grown

theorem sCutEdge_any (s : Int) (p : Option Addr) (n c : Nat) (es : List (Int × Int)) (e : Int) (w : World) (hm : n ≤ 1048576) (hn : es.length = n) (hr : SeesE w p es) :
    Calls Try.prog 10 #[.agg #[.int .i64 s, .slice p n c], .int .i64 e] w fun e' w' => ∃ q cap, e' = .returned (.tuple #[.agg #[.int .i64 (fCutEdge s es e).1, .slice q (fCutEdge s es e).2.1.length cap], .int .i64 (fCutEdge s es e).2.2]) ∧ FreshE w.heap.size w' q (fCutEdge s es e).2.1.length cap (fCutEdge s es e).2.1 ∧ Below w.heap.size w w' := by
  unfold fCutEdge
  by_cases g : IsG s es
  · rw [if_pos g]
    by_cases h : 0 ≤ e ∧ e < es.length
    · rw [if_pos h]
      obtain ⟨b, off, rfl, rd⟩ := isG_sees g hr
      exact sCe_in s e b off n c e.toNat es w hn rd g (by omega) (by omega) _ rfl
    · rw [if_neg h]
      exact (sCe_code s e 2 p n c es w hm hn hr (by rw [edgs_one, if_pos g, if_neg h]) (by decide)).mono fun e' w' ⟨he, hb⟩ => ⟨none, 0, he, FreshE.nil _ _, hb⟩
  · rw [if_neg g]
    exact (sCe_code s e 1 p n c es w hm hn hr (by rw [edgs_one, if_neg g]) (by decide)).mono fun e' w' ⟨he, hb⟩ => ⟨none, 0, he, FreshE.nil _ _, hb⟩

theorem iCutEdge_any (s : Int) (p : Option Addr) (n c : Nat) (es : List (Int × Int)) (e : Int) (w : World) (hm : n ≤ 1048576) (hn : es.length = n) (hr : SeesE w p es) :
    Calls Try.prog 12 #[.agg #[.int .i64 s, .slice p n c], .int .i64 e] w fun e' w' => ∃ q cap, e' = .returned (.tuple #[.agg #[.int .i64 (fCutEdge s es e).1, .slice q (fCutEdge s es e).2.1.length cap], .int .i64 (fCutEdge s es e).2.2]) ∧ FreshE w.heap.size w' q (fCutEdge s es e).2.1.length cap (fCutEdge s es e).2.1 ∧ Below w.heap.size w w' := by
  unfold fCutEdge
  by_cases g : IsG s es
  · rw [if_pos g]
    by_cases h : 0 ≤ e ∧ e < es.length
    · rw [if_pos h]
      obtain ⟨b, off, rfl, rd⟩ := isG_sees g hr
      exact iCe_in s e b off n c e.toNat es w hn rd g (by omega) (by omega) _ rfl
    · rw [if_neg h]
      exact (iCe_range s e p n c es w hm hn hr g (by rw [← hn]; exact h)).mono fun e' w' ⟨he, hb⟩ => ⟨none, 0, he, FreshE.nil _ _, hb⟩
  · rw [if_neg g]
    exact (iCe_none s e p n c es w hm hn hr g).mono fun e' w' ⟨he, hb⟩ => ⟨none, 0, he, FreshE.nil _ _, hb⟩

end Go.Proofs.Ytemhbbggnednpaa
