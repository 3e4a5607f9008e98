/- CyclesByLength and CountRounds in the program. -/
import Derived.Test.YtemhbbggnednpaaAcJ
import Derived.Test.YtemhbbggnednpaaImplG
import Derived.Deep.RegionWith
import Derived.Deep.DeepCutAuto
namespace Go.Proofs.Ytemhbbggnednpaa
open Go.RowKit

def expCode (s : Int) (es : List (Int × Int)) : Int := if IsG s es then (if s ≤ 12 then 0 else 3) else 1
/-- How many cycles there are by their lengths. -/
def cblF (s : Int) (es : List (Int × Int)) : List Int := lensL s.toNat (acL es s.toNat es.length)
def fCyclesByLength (s : Int) (es : List (Int × Int)) : List Int × Int := if expCode s es = 0 then (cblF s es, 0) else ([], expCode s es)
theorem fCyclesByLength_len (s : Int) (es : List (Int × Int)) (_ : es.length ≤ 1048576) : (fCyclesByLength s es).1.length ≤ 1048576 := by
  unfold fCyclesByLength
  split
  · rename_i h
    show (cblF s es).length ≤ _
    unfold cblF
    rw [lensL_len]
    unfold expCode at h
    split at h
    · split at h
      · omega
      · cases h
    · cases h
  · exact Nat.zero_le _
def fCountRounds (s : Int) (es : List (Int × Int)) : Int × Int := if expCode s es = 0 then (eI (cblF s es) s.toNat, 0) else (0, expCode s es)
theorem exp_zero {s : Int} {es : List (Int × Int)} (h : expCode s es = 0) : IsG s es ∧ s ≤ 12 := by
  unfold expCode at h
  split at h
  · rename_i g
    split at h
    · rename_i k
      exact ⟨g, k⟩
    · cases h
  · cases h

set_option maxRecDepth 100000 in
set_option maxHeartbeats 2000000 in
theorem iExp_any (s : Int) (p : Option Addr) (n c : Nat) (es : List (Int × Int)) (w : World) (hm : n ≤ 1048576) (hn : es.length = n) (hr : SeesE w p es) :
    Calls Try.prog 69 #[.agg #[.int .i64 s, .slice p n c]] w fun e w' => e = .returned (.int .i64 (expCode s es)) ∧ Below w.heap.size w w' := by
  have Hn := hid hn
  have Hr := hid hr
  clear hn hr
  unfold expCode
  by_cases g : IsG s es
  · rw [if_pos g]
    have G := hid g
    by_cases h : s ≤ 12
    · rw [if_pos h]
      have hd : decide (12 < s) = false := decide_eq_false (by omega)
      clear h g
      go_enter Try.func69, Try.ntmps69
      go_wp2_with fail
      refine (iIsGraph_any _ _ _ _ es _ hm Hn.out (Hr.out.on (on_alloc _ _))).mono ?_
      rw [decide_eq_true G.out]
      rintro e' w2 ⟨rfl, hb2⟩
      have HX := hid ((Box.new w s p n c 28).on hb2)
      have HB := hid (bfrom (w := w) (on_alloc _ _) hb2)
      have hx := HX.out.1
      have hl := HX.out.lt
      clear hb2
      go_wp2
      go_ret
      exact ⟨rfl, HB.out⟩
    · rw [if_neg h]
      have hd : decide (12 < s) = true := decide_eq_true (by omega)
      clear h g
      go_enter Try.func69, Try.ntmps69
      go_wp2_with fail
      refine (iIsGraph_any _ _ _ _ es _ hm Hn.out (Hr.out.on (on_alloc _ _))).mono ?_
      rw [decide_eq_true G.out]
      rintro e' w2 ⟨rfl, hb2⟩
      have HX := hid ((Box.new w s p n c 28).on hb2)
      have HB := hid (bfrom (w := w) (on_alloc _ _) hb2)
      have hx := HX.out.1
      have hl := HX.out.lt
      clear hb2
      go_wp2
      go_ret
      exact ⟨rfl, HB.out⟩
  · rw [if_neg g]
    have G := hid g
    clear g
    go_enter Try.func69, Try.ntmps69
    go_wp2_with fail
    refine (iIsGraph_any _ _ _ _ es _ hm Hn.out (Hr.out.on (on_alloc _ _))).mono ?_
    rw [decide_eq_false G.out]
    rintro e' w2 ⟨rfl, hb2⟩
    have HB := hid (bfrom (w := w) (on_alloc _ _) hb2)
    clear hb2
    go_wp2
    go_ret
    exact ⟨rfl, HB.out⟩

set_option maxRecDepth 100000 in
set_option maxHeartbeats 4000000 in
theorem iCyclesByLength_any (s : Int) (p : Option Addr) (n c : Nat) (es : List (Int × Int)) (w : World) (hm : n ≤ 1048576) (hn : es.length = n) (hr : SeesE w p es) :
    Calls Try.prog 26 #[.agg #[.int .i64 s, .slice p n c]] w fun e w' => ∃ q cap, e = .returned (.tuple #[.slice q (fCyclesByLength s es).1.length cap, .int .i64 (fCyclesByLength s es).2]) ∧ FreshI w.heap.size w' q (fCyclesByLength s es).1.length cap (fCyclesByLength s es).1 ∧ Below w.heap.size w w' := by
  unfold fCyclesByLength
  obtain ⟨x, hx⟩ : ∃ x, expCode s es = x := ⟨_, rfl⟩
  have HX := hid hx
  have Hn := hid hn
  by_cases h0 : x = 0
  · obtain ⟨g, hs12⟩ := exp_zero (hx.trans h0)
    rw [hx, if_pos h0]
    obtain ⟨b, off, rfl, rd⟩ := isG_sees g hr
    obtain ⟨N, hN⟩ : ∃ N : Nat, (N : Int) = s := ⟨s.toNat, Int.toNat_of_nonneg (by have := g.1.1.1; omega)⟩
    have HR := hid rd
    have Hr := hid hr
    have HN := hid hN
    have G := hid (show IsG (N : Int) es by rw [hN]; exact g)
    have HCb := hid (show cblF s es = lensL N (acL es N n) by unfold cblF; rw [← hN, Int.toNat_natCast, hn])
    have HCl := hid (show (cblF s es).length = N + 1 by rw [HCb.out, lensL_len])
    dsimp only
    rw [HCl.out]
    clear hn hr hx g rd hN hs12
    go_enter Try.func26, Try.ntmps26
    go_wp2_with fail
    refine (iExp_any s _ n c es _ hm Hn.out (Hr.out.on (on_alloc _ _))).mono ?_
    rw [HX.out, h0]
    rintro e' w2 ⟨rfl, hb2⟩
    have HBx := hid ((Box.new w s (some ⟨b, off, none⟩) n c 28).on hb2)
    have HB := hid (bfrom (w := w) (on_alloc _ _) hb2)
    have hx1 := HBx.out.1
    have hx2 := HBx.out.2
    have hl := HBx.out.lt
    clear hb2
    go_wp2_with fail
    have h := iCbl_any N b off n c es w2 Hn.out (HR.out.on HB.out) G.out
    rw [HN.out] at h
    refine h.mono ?_
    clear h
    rintro e' w3 ⟨gm, rfl, hgm, hom, hb3⟩
    have HB3 := hid (bfrom HB.out hb3)
    have HO3 := hid hom
    have hs2 := HB.out.size
    clear hb3 hom
    go_wp2
    go_ret2
    exact ⟨some ⟨gm, 0, none⟩, N + 1, rfl, by rw [HCb.out]; exact FreshI.of_own HO3.out (by rw [lensL_len]) (by omega), HB3.out⟩
  · rw [hx, if_neg h0]
    have Hr := hid hr
    have hx0 : (x != 0) = true := by simpa using h0
    clear hn hr hx h0
    go_enter Try.func26, Try.ntmps26
    go_wp2_with fail
    refine (iExp_any s p n c es _ hm Hn.out (Hr.out.on (on_alloc _ _))).mono ?_
    rw [HX.out]
    rintro e' w2 ⟨rfl, hb2⟩
    have HB := hid (bfrom (w := w) (on_alloc _ _) hb2)
    clear hb2
    go_wp2
    go_ret2
    exact ⟨none, 0, rfl, FreshI.nil _ _, HB.out⟩

set_option maxRecDepth 100000 in
set_option maxHeartbeats 4000000 in
theorem iCountRounds_any (s : Int) (p : Option Addr) (n c : Nat) (es : List (Int × Int)) (w : World) (hm : n ≤ 1048576) (hn : es.length = n) (hr : SeesE w p es) :
    Calls Try.prog 30 #[.agg #[.int .i64 s, .slice p n c]] w fun e w' => e = .returned (.tuple #[.int .i64 (fCountRounds s es).1, .int .i64 (fCountRounds s es).2]) ∧ Below w.heap.size w w' := by
  unfold fCountRounds
  obtain ⟨x, hx⟩ : ∃ x, expCode s es = x := ⟨_, rfl⟩
  have HX := hid hx
  have Hn := hid hn
  by_cases h0 : x = 0
  · obtain ⟨g, hs12⟩ := exp_zero (hx.trans h0)
    rw [hx, if_pos h0]
    obtain ⟨b, off, rfl, rd⟩ := isG_sees g hr
    obtain ⟨N, hN⟩ : ∃ N : Nat, (N : Int) = s := ⟨s.toNat, Int.toNat_of_nonneg (by have := g.1.1.1; omega)⟩
    have HR := hid rd
    have Hr := hid hr
    have HN := hid hN
    have G := hid (show IsG (N : Int) es by rw [hN]; exact g)
    have hs0 : 0 ≤ s := by omega
    have hsN : s.toNat = N := by omega
    have hsl : s < ((N + 1 : Nat) : Int) := by omega
    obtain ⟨R, hR⟩ : ∃ R, eI (cblF s es) s.toNat = R := ⟨_, rfl⟩
    have HRv := hid (show eI (lensL N (acL es N n)) N = R by rw [← hR, hsN]; unfold cblF; rw [hsN, hn])
    dsimp only
    rw [hR]
    clear hn hr hx g rd hN hs12 hR
    go_enter Try.func30, Try.ntmps30
    go_wp2_with fail
    refine (iExp_any s _ n c es _ hm Hn.out (Hr.out.on (on_alloc _ _))).mono ?_
    rw [HX.out, h0]
    rintro e' w2 ⟨rfl, hb2⟩
    have HBx := hid ((Box.new w s (some ⟨b, off, none⟩) n c 28).on hb2)
    have HB := hid (bfrom (w := w) (on_alloc _ _) hb2)
    have hx1 := HBx.out.1
    have hx2 := HBx.out.2
    have hl := HBx.out.lt
    clear hb2
    have h := iCbl_any N b off n c es w2.drew Hn.out (HR.out.on HB.out.drew) G.out
    rw [HN.out] at h
    have HC := hid h
    clear h
    go_upto_region 4 with fail
    go_region_with ((go_at_call 70; refine HC.out.mono ?_; rintro e' w3 ⟨gm, rfl, hgm, hom, hb3⟩; have HB3 := hid (bfrom HB.out.drew hb3); have hcm := hom.reads N (by rw [lensL_len]; omega); rw [HRv.out, Nat.zero_add] at hcm; have hgl := hom.lt; have hx3 := ((bcells hb3).1 _ 0 hl).trans hx1; have hy3 := ((bcells hb3).1 _ 1 hl).trans hx2; have hl3 : w.heap.size < w3.heap.size := Nat.lt_of_lt_of_le hl hb3.size; clear hom hb3))
    all_goals
      go_wp2
      go_ret2
      exact ⟨rfl, HB3.out⟩
  · rw [hx, if_neg h0]
    have Hr := hid hr
    have hx0 : (x != 0) = true := by simpa using h0
    clear hn hr hx h0
    go_enter Try.func30, Try.ntmps30
    go_wp2_with fail
    refine (iExp_any s p n c es _ hm Hn.out (Hr.out.on (on_alloc _ _))).mono ?_
    rw [HX.out]
    rintro e' w2 ⟨rfl, hb2⟩
    have HB := hid (bfrom (w := w) (on_alloc _ _) hb2)
    clear hb2
    go_wp2
    go_ret2
    exact ⟨rfl, HB.out⟩

end Go.Proofs.Ytemhbbggnednpaa
