/- IsEdgeCut in the model. -/
import Derived.Test.YtafhpldcpgjpjaaRestS
import Derived.Deep.RegionWith
import Derived.Deep.RegionHeld3
import Derived.Deep.DeepCutAuto
namespace Go.Proofs.Ytafhpldcpgjpjaa
open Go.RowKit

def edgesCode (s : Int) (es : List (Int × Int)) (xs : List Int) : Int := if IsG s es then setCode es.length xs else 1

set_option maxRecDepth 100000 in
set_option maxHeartbeats 2000000 in
theorem sEdges_none (s : Int) (p ps : Option Addr) (n c k f : Nat) (es : List (Int × Int)) (w : World) (hm : n ≤ 1048576) (hn : es.length = n) (hr : SeesE w p es) (g : ¬ IsG s es) :
    Calls Try.prog 75 #[.agg #[.int .i64 s, .slice p n c], .slice ps k f] w fun e' w' => e' = .returned (.int .i64 1) ∧ Below w.heap.size w w' := by
  have Hn := hid hn
  have Hr := hid hr
  have G := hid g
  have hm9 : n ≤ 9223372036854775807 := by omega
  clear hn hr g
  go_enter Try.func75, Try.ntmps75
  go_wp2_with fail
  refine (sIs_any _ _ _ _ es _ hm9 Hn.out (Hr.out.on (on_alloc _ _))).mono ?_
  rw [decide_eq_false G.out]
  rintro e w2 ⟨rfl, hb2⟩
  have hB2 := bfrom (w := w) (by go_grown) hb2
  go_wp2
  go_ret
  exact ⟨rfl, hB2⟩

set_option maxRecDepth 100000 in
set_option maxHeartbeats 2000000 in
theorem sEdges_set (s : Int) (b off n c k f : Nat) (ps : Option Addr) (es : List (Int × Int)) (xs : List Int) (w : World) (hn : es.length = n) (hr : ReadsE w b off es) (g : IsG s es) (hk9 : k ≤ 1048576) (hx : xs.length = k) (hrx : SeesI w ps xs) :
    Calls Try.prog 75 #[.agg #[.int .i64 s, .slice (some ⟨b, off, none⟩) n c], .slice ps k f] w fun e' w' => e' = .returned (.int .i64 (setCode n xs)) ∧ Below w.heap.size w w' := by
  have hn30 : n ≤ 30 := by have := isG_len g; omega
  have hn1 : 1 ≤ n := by have := g.1.1.2.2.2; have := g.1.1.1; omega
  have Hn := hid hn
  have Hr := hid hr
  have G := hid g
  have Hx := hid hx
  have Hrx := hid hrx
  obtain ⟨r, hrr⟩ : ∃ r, setCode n xs = r := ⟨_, rfl⟩
  rw [hrr]
  have HR := hid hrr
  clear hn hr g hx hrx hrr
  go_enter Try.func75, Try.ntmps75
  go_wp2_with fail
  refine (sIs_any _ _ _ _ es _ (by omega) Hn.out (SeesE.on (.inr ⟨b, off, rfl, Hr.out⟩) (on_alloc _ _))).mono ?_
  rw [decide_eq_true G.out]
  rintro e w2 ⟨rfl, hb2⟩
  have HB2 := hid (bfrom (w := w) (on_alloc _ _) hb2)
  have hX2 := (Box.new w s (some ⟨b, off, none⟩) n c 31).on hb2
  have hy2 := hX2.2
  have hz2 := hX2.lt
  clear hX2 hb2
  go_wp2_with fail
  refine (sSet_any _ _ _ _ xs _ hn1 hn30 Hx.out hk9 (Hrx.out.on HB2.out)).mono ?_
  rw [HR.out]
  rintro e w3 ⟨rfl, hb3⟩
  have HB3 := hid (bfrom HB2.out hb3)
  clear hy2 hz2 hb3
  go_wp2
  go_ret
  exact ⟨rfl, HB3.out⟩

theorem sEdges_any (s : Int) (p ps : Option Addr) (n c k f : Nat) (es : List (Int × Int)) (xs : List Int) (w : World) (hm : n ≤ 1048576) (hn : es.length = n) (hr : SeesE w p es) (hk9 : k ≤ 1048576) (hx : xs.length = k) (hrx : SeesI w ps xs) :
    Calls Try.prog 75 #[.agg #[.int .i64 s, .slice p n c], .slice ps k f] w fun e' w' => e' = .returned (.int .i64 (edgesCode s es xs)) ∧ Below w.heap.size w w' := by
  unfold edgesCode
  by_cases g : IsG s es
  · rw [if_pos g, hn]
    obtain ⟨b, off, rfl, rd⟩ := isG_sees g hr
    exact sEdges_set s b off n c k f ps es xs w hn rd g hk9 hx hrx
  · rw [if_neg g]
    exact sEdges_none s p ps n c k f es w hm hn hr g

set_option maxRecDepth 100000 in
set_option maxHeartbeats 2000000 in
theorem sCutE_code (s q0 : Int) (p ps : Option Addr) (n c k f : Nat) (es : List (Int × Int)) (xs : List Int) (w : World) (hm : n ≤ 1048576) (hn : es.length = n) (hr : SeesE w p es) (hk9 : k ≤ 1048576) (hx : xs.length = k) (hrx : SeesI w ps xs) (hq : edgesCode s es xs = q0) (hne : (q0 != 0) = true) :
    Calls Try.prog 44 #[.agg #[.int .i64 s, .slice p n c], .slice ps k f] w fun e' w' => e' = .returned (.tuple #[.bool false, .int .i64 q0]) ∧ Below w.heap.size w w' := by
  have Hn := hid hn
  have Hr := hid hr
  have Hx := hid hx
  have Hrx := hid hrx
  have HQ := hid hq
  clear hn hr hx hrx hq
  go_enter Try.func44, Try.ntmps44
  go_wp2_with fail
  refine (sEdges_any _ _ _ _ _ _ _ es xs _ hm Hn.out (Hr.out.on (on_alloc _ _)) hk9 Hx.out (Hrx.out.on (on_alloc _ _))).mono ?_
  rw [HQ.out]
  rintro e w2 ⟨rfl, hb2⟩
  have HB2 := hid (bfrom (w := w) (on_alloc _ _) hb2)
  clear hb2
  go_wp2
  go_ret2
  exact ⟨rfl, HB2.out⟩

set_option maxRecDepth 100000 in
set_option maxHeartbeats 8000000 in
theorem sCutE_yes (N : Nat) (b off n c k f : Nat) (ps : Option Addr) (es : List (Int × Int)) (xs : List Int) (w : World) (hn : es.length = n) (hr : ReadsE w b off es) (g : IsG N es) (hk9 : k ≤ 1048576) (hx : xs.length = k) (hrx : SeesI w ps xs) (gs : isSetP n xs) :
    Calls Try.prog 44 #[.agg #[.int .i64 N, .slice (some ⟨b, off, none⟩) n c], .slice ps k f] w fun e' w' => e' = .returned (.tuple #[.bool (cutE N es xs), .int .i64 0]) ∧ Below w.heap.size w w' := by
  have hn30 : n ≤ 30 := by have := isG_len g; omega
  have hN4 : N ≤ 20 := by have := g.1.1.2.1; omega
  have Hn := hid hn
  have Hr := hid hr
  have G := hid g
  have Hx := hid hx
  have Hrx := hid hrx
  have GS := hid gs
  have HQ := hid (show edgesCode N es xs = 0 by unfold edgesCode setCode; rw [if_pos g, hn, if_pos gs])
  have HL := hid (show (restE es xs).length ≤ 30 by have := restU_len es xs es.length; unfold restE; omega)
  have HEI := hid (endsIn_of g)
  obtain ⟨m1, hm1⟩ : ∃ m, numP N (restE es xs) = m := ⟨_, rfl⟩
  obtain ⟨m2, hm2⟩ : ∃ m, numP N es = m := ⟨_, rfl⟩
  have HM1 := hid hm1
  have HM2 := hid hm2
  have hcut : cutE N es xs = decide (m2 < m1) := by unfold cutE; rw [hm1, hm2]
  rw [hcut]
  clear hn hr g hx hrx gs hm1 hm2 hcut
  go_enter Try.func44, Try.ntmps44
  go_wp2_with fail
  refine (sEdges_any _ _ _ _ _ _ _ es xs _ (by omega) Hn.out (SeesE.on (.inr ⟨b, off, rfl, Hr.out⟩) (on_alloc _ _)) hk9 Hx.out (Hrx.out.on (on_alloc _ _))).mono ?_
  rw [HQ.out]
  rintro e w3 ⟨rfl, hb3⟩
  have HB3 := hid (bfrom (w := w) (on_alloc _ _) hb3)
  have hX3 := (Box.new w N (some ⟨b, off, none⟩) n c 31).on hb3
  have hx3 := hX3.1
  have hy3 := hX3.2
  have hz3 := hX3.lt
  clear hX3 hb3
  go_upto_region 4 with fail
  go_cut [4, 5] (fun z y wx => z = .bool (decide (m2 < m1)) ∧ y = .int .i64 0 ∧ Hid (Below w3.heap.size w3 wx))
  case first =>
    go_region_held3 (fun w' => w'.cell? ⟨w.heap.size, 0, none⟩ = some (.int .i64 N) ∧ w'.cell? ⟨w.heap.size, 1, none⟩ = some (.slice (some ⟨b, off, none⟩) n c)) (go_keep) (first
      | (go_at_call 76; refine (sRest_any N b off n c k f ps es xs _ Hn.out hn30 (Hr.out.on HB3.out.drew) Hx.out hk9 (Hrx.out.on HB3.out.drew) GS.out).mono ?_; rintro e' w4 ⟨qR, cR, rfl, hf4, hb4⟩; have hc4 := ((bcells hb4).1 _ _ hz3).trans hx3; have hd4 := ((bcells hb4).1 _ _ hz3).trans hy3; have hb4' : Below w3.heap.size w3 w4 := bfrom (Below.refl _ _).drew hb4; have hz4 : w.heap.size < w4.heap.size := by (have := hb4'.size; omega))
      | (go_at_call_of 79 qR; refine (sParts_any N qR _ cR (restE es xs) _ rfl HL.out hN4 hf4.sees (rest_ends HEI.out)).mono ?_; rw [HM1.out]; rintro e' w5 ⟨rfl, hb5⟩; have hc5 := ((bcells hb5).1 _ _ hz4).trans hc4; have hd5 := ((bcells hb5).1 _ _ hz4).trans hd4; have hb5' : Below w3.heap.size w3 w5 := bfrom hb4' hb5; have hz5 : w.heap.size < w5.heap.size := by (have := hb5'.size; omega))
      | (go_at_call_of 79 off; refine (sParts_any N _ n c es _ Hn.out hn30 hN4 (SeesE.on (.inr ⟨b, off, rfl, Hr.out⟩) (bfrom HB3.out hb5')) HEI.out).mono ?_; rw [HM2.out]; rintro e' w6 ⟨rfl, hb6⟩; have hc6 := ((bcells hb6).1 _ _ hz5).trans hc5; have hd6 := ((bcells hb6).1 _ _ hz5).trans hd5; have hb6' : Below w3.heap.size w3 w6 := bfrom hb5' hb6))
    all_goals
      go_wp2_with fail
      go_meet
      exact ⟨by first | rfl | simp, rfl, hid (by first | exact hb6' | exact bdn.mpr hb6')⟩
  case rest =>
  obtain ⟨rfl, rfl, hcb⟩ := hcut
  obtain ⟨w10, rfl⟩ : ∃ w10, w10 = wc := ⟨_, rfl⟩
  have HB10 := hid (bfrom HB3.out hcb.out)
  clear hcb hx3 hy3 hz3
  go_wp2
  go_ret2
  exact ⟨rfl, HB10.out⟩

theorem sIsEdgeCut_any (s : Int) (p : Option Addr) (n c : Nat) (es : List (Int × Int)) (ps : Option Addr) (k f : Nat) (xs : List Int) (w : World) (hm : n ≤ 1048576) (hn : es.length = n) (hr : SeesE w p es) (hk : k ≤ 1048576) (hx : xs.length = k) (hrx : SeesI w ps xs) :
    Calls Try.prog 44 #[.agg #[.int .i64 s, .slice p n c], .slice ps k f] w fun e' w' => e' = .returned (.tuple #[.bool (fIsEdgeCut s es xs).1, .int .i64 (fIsEdgeCut s es xs).2]) ∧ Below w.heap.size w w' := by
  unfold fIsEdgeCut
  by_cases g : IsG s es
  · rw [if_pos g]
    obtain ⟨N, rfl⟩ : ∃ N : Nat, s = N := ⟨_, (Int.toNat_of_nonneg (by have := g.1.1.1; omega)).symm⟩
    rw [Int.toNat_natCast]
    by_cases gs : isSetP es.length xs
    · rw [if_pos gs]
      obtain ⟨b, off, rfl, rd⟩ := isG_sees g hr
      exact sCutE_yes N b off n c k f ps es xs w hn rd g hk hx hrx (by rw [← hn]; exact gs)
    · rw [if_neg gs]
      exact sCutE_code N 2 p ps n c k f es xs w hm hn hr hk hx hrx (by unfold edgesCode setCode; rw [if_pos g, if_neg gs]) rfl
  · rw [if_neg g]
    exact sCutE_code s 1 p ps n c k f es xs w hm hn hr hk hx hrx (by unfold edgesCode; rw [if_neg g]) rfl

end Go.Proofs.Ytafhpldcpgjpjaa
