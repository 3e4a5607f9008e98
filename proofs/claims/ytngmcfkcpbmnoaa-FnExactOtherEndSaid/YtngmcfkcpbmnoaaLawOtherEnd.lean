/- The law on OtherEnd, walked out of the contracts: it returns true, whatever edges lie in memory. -/
import Derived.Test.YtngmcfkcpbmnoaaOtherB
import Derived.Deep.RegionWith
namespace Go.Proofs.Ytngmcfkcpbmnoaa
open Go.RowKit

set_option maxRecDepth 100000 in
set_option maxHeartbeats 1000000 in
theorem lawOtherEnd_big (s : Int) (p : Option Addr) (n c : Nat) (e : Int) (v : Int) (w : World) (h1 : n ≤ 9223372036854775807) (h2 : 1048576 < n) :
    Calls Try.prog 6 #[.agg #[.int .i64 s, .slice p n c], .int .i64 e, .int .i64 v] w fun e' w' => e' = .returned (.bool true) ∧ Below w.heap.size w w' := by
  have H2 := hid h2
  clear h2
  go_enter Try.func6, Try.ntmps6
  go_wp2_with (go_at_call 16; refine (szGraph_any _ _ _ _ _ _ h1 (by omega) (by omega)).mono ?_; rw [if_pos (by have := H2.out; omega)]; rintro e' w2 ⟨rfl, hb2⟩)
  go_ret
  exact ⟨rfl, bfrom (by go_grown) hb2⟩

set_option maxRecDepth 100000 in
set_option maxHeartbeats 2000000 in
theorem lawOtherEnd_small (s : Int) (p : Option Addr) (n c : Nat) (es : List (Int × Int)) (e : Int) (v : Int) (w : World) (hn : es.length = n) (hlen : n ≤ 1048576) (hr : SeesE w p es) :
    Calls Try.prog 6 #[.agg #[.int .i64 s, .slice p n c], .int .i64 e, .int .i64 v] w fun e' w' => e' = .returned (.bool true) ∧ Below w.heap.size w w' := by
  have hm1 : n ≤ 9223372036854775807 := by omega
  have hm2 : n ≤ 9223372036854775807 := by omega
  have hge : ¬ ((1048576 : Int) - n < 0) := by omega
  have Hn := hid hn
  have Hr := hid hr
  have Hm := hid hlen
  clear hn hr hlen
  obtain ⟨r0, r1, hR⟩ : ∃ (r0 : Int) (r1 : Int), otherF s es e v = (r0, r1) := ⟨_, _, rfl⟩
  have HR := hid hR
  clear hR
  have hne0 : (r0 != r0) = false := by simp
  have hne1 : (r1 != r1) = false := by simp
  go_enter Try.func6, Try.ntmps6
  go_wp2_with (go_at_call 16; refine (szGraph_any _ _ _ _ _ _ hm1 (by omega) (by omega)).mono ?_; rw [if_neg (by have := Hm.out; omega)]; rintro e' w2 ⟨rfl, hb2⟩; obtain ⟨hc2, hf2⟩ := bcells hb2)
  have hB2 := bfrom (w := w) (by go_grown) hb2
  refine (toGraph_any _ _ _ _ es _ Hn.out Hm.out (Hr.out.on hB2)).mono ?_
  rintro e' w3 ⟨g1, rfl, hg1, ho1, hb3⟩
  have hB3 := bfrom hB2 hb3
  obtain ⟨hc3, hf3⟩ := bcells hb3
  have HO1 := hid ho1
  have hz3 : w.heap.size < w3.heap.size := (by have h := hb2.size; have h' := hb3.size; simp at h; omega)
  clear ho1
  go_wp2_with fail
  refine (sOtherEnd_any s e v _ _ _ es _ hm1 Hn.out HO1.out.sees).mono ?_
  rw [HR.out]
  rintro e' w4 ⟨rfl, hb4⟩
  have hB4 := bfrom hB3 hb4
  obtain ⟨hc4, hf4⟩ := bcells hb4
  have hz4 : w.heap.size < w4.heap.size := (by have h' := hb4.size; omega)
  have hx4 : w4.cell? ⟨w.heap.size, 0, none⟩ = some (.int .i64 s) := by
    rw [hc4 _ _ hz3, hc3 _ _ (by have h := hb2.size; simp at h; omega), hc2 _ _ (by simp)]; simp
  have hy4 : w4.cell? ⟨w.heap.size, 1, none⟩ = some (.slice p n c) := by
    rw [hc4 _ _ hz3, hc3 _ _ (by have h := hb2.size; simp at h; omega), hc2 _ _ (by simp)]; simp
  clear hc2 hf2 hc3 hf3 hc4 hf4
  go_wp2_with fail
  refine (toGraph_any _ _ _ _ es _ Hn.out Hm.out (Hr.out.on hB4)).mono ?_
  rintro e' w5 ⟨g2, rfl, hg2, ho2, hb5⟩
  have hB5 := bfrom hB4 hb5
  have hx5 := ((bcells hb5).1 _ _ hz4).trans hx4
  have hy5 := ((bcells hb5).1 _ _ hz4).trans hy4
  have HO2 := hid ho2
  have hz5 : w.heap.size < w5.heap.size := (by have h' := hb5.size; omega)
  clear ho2
  go_wp2_with fail
  refine (iOtherEnd_any s e v _ _ _ es _ Hm.out Hn.out (HO2.out.sees.alloc _)).mono ?_
  rw [HR.out]
  rintro e' w6 ⟨rfl, hb6⟩
  have hB6 := bfrom (bfrom hB5 ((Below.refl _ _).alloc (Nat.le_refl _) _)) hb6
  have hz6 : w5.heap.size < w6.heap.size := (by have h' := hb6.size; simp at h'; omega)
  have hz6' : w.heap.size < w6.heap.size := by omega
  have hx6 : w6.cell? ⟨w.heap.size, 0, none⟩ = some (.int .i64 s) := by
    rw [(bcells hb6).1 _ _ (by simp; omega), World.cell?_alloc_past _ _ _ hz5]; exact hx5
  have hy6 : w6.cell? ⟨w.heap.size, 1, none⟩ = some (.slice p n c) := by
    rw [(bcells hb6).1 _ _ (by simp; omega), World.cell?_alloc_past _ _ _ hz5]; exact hy5
  have hu6 : w6.cell? ⟨w5.heap.size, 0, none⟩ = some (.int .i64 s) := by
    rw [(bcells hb6).1 _ _ (by simp)]; simp
  have hv6 : w6.cell? ⟨w5.heap.size, 1, none⟩ = some (.slice (some ⟨g2, 0, none⟩) n n) := by
    rw [(bcells hb6).1 _ _ (by simp)]; simp
  have HO6 := hid ((HO2.out.alloc (.cells #[.int .i64 s, .slice (some ⟨g2, 0, none⟩) n n] 29)).on hb6)
  clear hx4 hy4 hx5 hy5
  go_wp2_with fail
  go_region_with (first
    | (go_at_call 18; refine (toGraph_any _ _ _ _ es _ Hn.out Hm.out ?_).mono ?_; (first | exact Hr.out.on hB6 | exact Hr.out.on hB6.drew); rintro e' w7 ⟨g3, rfl, hg3, ho3, hb7⟩; have HO3 := hid ho3; clear ho3; have hu7 := ((bcells hb7).1 _ _ hz6).trans hu6; have hv7 := ((bcells hb7).1 _ _ hz6).trans hv6)
    | (go_at_call 20; refine (eqGraph_any _ _ _ _ _ _ _ _ es es _ Hn.out Hn.out hm2 hm2 ?_ ?_).mono ?_; (exact ((HO6.out.keep (w' := w6.drew) rfl).on hb7).sees); (exact HO3.out.sees); rintro e' w8 ⟨rfl, hb8⟩))
  all_goals
    go_wp2
    go_ret
    exact ⟨rfl, bfrom (bfrom hB6.drew hb7) hb8⟩

theorem lawOtherEnd_any (s : Int) (p : Option Addr) (n c : Nat) (es : List (Int × Int)) (e : Int) (v : Int) (w : World) (hn : es.length = n) (hle : n ≤ 9223372036854775807) (hr : SeesE w p es) (_ : (Lit.int .i64 e).wf = true) (_ : (Lit.int .i64 v).wf = true) :
    Calls Try.prog 6 #[.agg #[.int .i64 s, .slice p n c], .int .i64 e, .int .i64 v] w fun e' w' => e' = .returned (.bool true) ∧ Below w.heap.size w w' := by
  by_cases h : n ≤ 1048576
  · exact lawOtherEnd_small s p n c es e v w hn h hr
  · exact lawOtherEnd_big s p n c e v w hle (by omega)

end Go.Proofs.Ytngmcfkcpbmnoaa
