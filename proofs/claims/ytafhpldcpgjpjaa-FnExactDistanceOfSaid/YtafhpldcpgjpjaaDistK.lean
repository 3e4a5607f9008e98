/- DistanceOf in the program. -/
import Derived.Test.YtafhpldcpgjpjaaDistJ
import Derived.Test.YtafhpldcpgjpjaaDistA
import Derived.Test.YtafhpldcpgjpjaaImplG
import Derived.Deep.RegionWith
import Derived.Deep.DeepCutAuto
namespace Go.Proofs.Ytafhpldcpgjpjaa
open Go.RowKit

set_option maxRecDepth 100000 in
set_option maxHeartbeats 2000000 in
theorem iDist_none (s u v : Int) (p : Option Addr) (n c : Nat) (es : List (Int × Int)) (w : World) (hm : n ≤ 1048576) (hn : es.length = n) (hr : SeesE w p es) (g : ¬ IsG s es) :
    Calls Try.prog 27 #[.agg #[.int .i64 s, .slice p n c], .int .i64 u, .int .i64 v] w fun e w' => e = .returned (.tuple #[.int .i64 0, .int .i64 1]) ∧ Below w.heap.size w w' := by
  have Hn := hid hn
  have Hr := hid hr
  have G := hid g
  clear hn hr g
  go_enter Try.func27, Try.ntmps27
  go_wp2_with fail
  refine (iIsGraph_any _ _ _ _ es _ hm Hn.out (Hr.out.on (on_alloc _ _))).mono ?_
  rw [decide_eq_false G.out]
  rintro e w2 ⟨rfl, hb2⟩
  have hB2 := bfrom (w := w) (by go_grown) hb2
  go_wp2
  go_ret2
  exact ⟨rfl, hB2⟩

set_option maxRecDepth 100000 in
set_option maxHeartbeats 2000000 in
theorem iDist_range (s u v : Int) (p : Option Addr) (n c : Nat) (es : List (Int × Int)) (w : World) (hm : n ≤ 1048576) (hn : es.length = n) (hr : SeesE w p es) (g : IsG s es) (hv : ¬ ((0 ≤ u ∧ u < s) ∧ (0 ≤ v ∧ v < s))) :
    Calls Try.prog 27 #[.agg #[.int .i64 s, .slice p n c], .int .i64 u, .int .i64 v] w fun e w' => e = .returned (.tuple #[.int .i64 0, .int .i64 2]) ∧ Below w.heap.size w w' := by
  have Hn := hid hn
  have Hr := hid hr
  have G := hid g
  clear hn hr g
  by_cases hu : 0 ≤ u ∧ u < s
  · have Hu := hid hu
    have Hv := hid (show ¬ (0 ≤ v ∧ v < s) from fun h => hv ⟨hu, h⟩)
    clear hu hv
    go_enter Try.func27, Try.ntmps27
    go_wp2_with fail
    refine (iIsGraph_any _ _ _ _ es _ hm Hn.out (Hr.out.on (on_alloc _ _))).mono ?_
    rw [decide_eq_true G.out]
    rintro e w2 ⟨rfl, hb2⟩
    have hB2 := bfrom (w := w) (by go_grown) hb2
    have hX2 := (Box.new w s p n c 31).on hb2
    have hx2 := hX2.1
    have hz2 := hX2.lt
    go_wp2_with (first
      | (go_at_call_of 61 u; refine (iBelow_yes _ _ _ Hu.out).mono ?_; rintro e' w' ⟨rfl, rfl⟩)
      | (go_at_call_of 61 v; refine (iBelow_no _ _ _ Hv.out).mono ?_; rintro e' w' ⟨rfl, rfl⟩))
    go_ret2
    exact ⟨rfl, hB2⟩
  · have Hu := hid hu
    clear hu hv
    go_enter Try.func27, Try.ntmps27
    go_wp2_with fail
    refine (iIsGraph_any _ _ _ _ es _ hm Hn.out (Hr.out.on (on_alloc _ _))).mono ?_
    rw [decide_eq_true G.out]
    rintro e w2 ⟨rfl, hb2⟩
    have hB2 := bfrom (w := w) (by go_grown) hb2
    have hX2 := (Box.new w s p n c 31).on hb2
    have hx2 := hX2.1
    have hz2 := hX2.lt
    go_wp2_with (go_at_call 61; refine (iBelow_no _ _ _ Hu.out).mono ?_; rintro e' w' ⟨rfl, rfl⟩)
    go_ret2
    exact ⟨rfl, hB2⟩

set_option maxRecDepth 100000 in
set_option maxHeartbeats 4000000 in
theorem iDist_yes (N V : Nat) (u : Int) (b off n c : Nat) (es : List (Int × Int)) (w : World) (hlen : es.length = n) (hr : ReadsE w b off es) (g : IsG N es) (hu : 0 ≤ u ∧ u < N) (hv : V < N) :
    Calls Try.prog 27 #[.agg #[.int .i64 N, .slice (some ⟨b, off, none⟩) n c], .int .i64 u, .int .i64 V] w fun e' w' => e' = .returned (.tuple #[.int .i64 (if eI (farF N es allK u) V = -1 then (0, 4) else (eI (farF N es allK u) V, (0 : Int))).1, .int .i64 (if eI (farF N es allK u) V = -1 then (0, 4) else (eI (farF N es allK u) V, (0 : Int))).2]) ∧ Below w.heap.size w w' := by
  have hn30 : n ≤ 30 := by have := isG_len g; omega
  have HNN := hid (show 1 ≤ N ∧ N ≤ 20 by have := g.1.1.1; have := g.1.1.2.1; omega)
  have HEI := hid (endsIn_of g)
  have HNE := hid (show ∀ i, i < es.length → eA es i ≠ eB es i from fun i hi => isG_ne g hi)
  have Hl := hid hlen
  have Hr := hid hr
  have G := hid g
  have HU := hid hu
  have HV1 := hid (show 0 ≤ (V : Int) ∧ (V : Int) < N by omega)
  have hbd := farF_bnd (keep := allK) (endsIn_of g) hu hv
  have hfl := farF_len (keep := allK) (endsIn_of g) hu
  have hbb : b < w.heap.size := reads_lt hr (by have := isG_len g; have := g.1.1.2.2.2; have := g.1.1.1; omega)
  obtain ⟨x, hx⟩ : ∃ x, eI (farF N es allK u) V = x := ⟨_, rfl⟩
  rw [hx] at hbd ⊢
  have HX := hid hx
  have HFL := hid hfl
  have hv' : (V : Int) < (N : Int) := by omega
  obtain ⟨r, hrr⟩ : ∃ r : Int × Int, r = if x = -1 then (0, 4) else (x, 0) := ⟨_, rfl⟩
  rw [← hrr]
  have HRR := hid hrr
  clear hlen hr g hu hx hfl hrr
  go_enter Try.func27, Try.ntmps27
  go_wp2_with fail
  refine (iIsGraph_any _ _ _ _ es _ (by omega) Hl.out (SeesE.on (.inr ⟨b, off, rfl, Hr.out⟩) (on_alloc _ _))).mono ?_
  rw [decide_eq_true G.out]
  rintro e w2 ⟨rfl, hb2⟩
  have hB2 := bfrom (w := w) (on_alloc _ _) hb2
  have hX2 := (Box.new w N (some ⟨b, off, none⟩) n c 31).on hb2
  have hx2 := hX2.1
  have hy2 := hX2.2
  have hz2 := hX2.lt
  have hw2 := hB2.size
  have HB2 := hid hB2
  clear hb2 hB2 hX2
  go_upto_region 5 with (first
    | (go_at_call_of 61 u; refine (iBelow_yes _ _ _ HU.out).mono ?_; rintro e' w' ⟨rfl, rfl⟩)
    | (go_at_call 61; refine (iBelow_yes _ _ _ HV1.out).mono ?_; rintro e' w' ⟨rfl, rfl⟩))
  go_cut [8] (fun z wx => z = .int .i64 x ∧ Hid (Below w2.heap.size w2 wx))
  case first =>
    go_region_with (first
      | (go_at_call 63; refine (iNoEdge_any _).mono ?_; rintro e' w3 ⟨rfl, hb3⟩; have hc3 := ((bcells hb3).1 _ _ hz2).trans hx2; have hd3 := ((bcells hb3).1 _ _ hz2).trans hy2; have hb3' : Below w2.heap.size w2 w3 := bfrom (Below.refl _ _).drew hb3)
      | (go_at_call 62; refine (iDistAll_any N u b off n c es _ Hl.out hn30 (by have := hb3'.size; omega) (Hr.out.on (bfrom HB2.out hb3')) HEI.out HNE.out HNN.out HU.out).mono ?_; rintro e' w4 ⟨gg, rfl, hgg, ho4, hb4⟩; have hb4' : Below w2.heap.size w2 w4 := bfrom hb3' hb4; have hcx := ho4.reads V (by rw [HFL.out]; exact hv); rw [Nat.zero_add, HX.out] at hcx; have hgz := ho4.lt))
    all_goals
      go_wp2_with fail
      go_meet
      exact ⟨rfl, hid (by first | exact hb4' | exact bdn.mpr hb4')⟩
  case rest =>
  obtain ⟨rfl, hcb⟩ := hcut
  obtain ⟨w10, rfl⟩ : ∃ w10, w10 = wc := ⟨_, rfl⟩
  have HB3 := hid (bfrom HB2.out hcb.out)
  clear hcb hx2 hy2 hz2
  by_cases hm : x = -1
  · have HRm := hid (show r = (0, 4) by rw [HRR.out, if_pos hm])
    subst hm
    go_wp2
    go_ret2
    refine ⟨?_, HB3.out⟩
    rw [HRm.out]
    rfl
  · have HRm := hid (show r = (x, 0) by rw [HRR.out, if_neg hm])
    have hne : (x == -1) = false := by simpa using hm
    clear hm
    go_wp2
    go_ret2
    refine ⟨?_, HB3.out⟩
    rw [HRm.out]
    rfl

theorem iDistanceOf_any (s : Int) (p : Option Addr) (n c : Nat) (es : List (Int × Int)) (u v : Int) (w : World) (hm : n ≤ 1048576) (hl : es.length = n) (hr : SeesE w p es) :
    Calls Try.prog 27 #[.agg #[.int .i64 s, .slice p n c], .int .i64 u, .int .i64 v] w fun e' w' => e' = .returned (.tuple #[.int .i64 (fDistanceOf s es u v).1, .int .i64 (fDistanceOf s es u v).2]) ∧ Below w.heap.size w w' := by
  unfold fDistanceOf
  by_cases g : IsG s es
  · rw [if_pos g]
    by_cases hv : (0 ≤ u ∧ u < s) ∧ (0 ≤ v ∧ v < s)
    · rw [if_pos hv]
      obtain ⟨b, off, rfl, rd⟩ := isG_sees g hr
      obtain ⟨N, rfl⟩ : ∃ N : Nat, s = N := ⟨_, (Int.toNat_of_nonneg (by have := g.1.1.1; omega)).symm⟩
      obtain ⟨V, rfl⟩ : ∃ V : Nat, v = V := ⟨_, (Int.toNat_of_nonneg hv.2.1).symm⟩
      rw [Int.toNat_natCast, Int.toNat_natCast]
      exact iDist_yes N V u b off n c es w hl rd g hv.1 (by omega)
    · rw [if_neg hv]
      exact iDist_range s u v p n c es w hm hl hr g hv
  · rw [if_neg g]
    exact iDist_none s u v p n c es w hm hl hr g

end Go.Proofs.Ytafhpldcpgjpjaa
