/- GenusOfRotation in the program: codeOfConnected, genusOf, any argument. -/
import Derived.Test.YtnimlipogphhmaaFacO
import Derived.Test.YtnimlipogphhmaaFacR
import Derived.Test.YtnimlipogphhmaaPrs
import Derived.Test.YtnimlipogphhmaaConI
namespace Go.Proofs.Ytnimlipogphhmaa
open Go.RowKit

attribute [local go_sem] Oper.semAt_some

/- As in FacQ, which this text does not import, so that the claim keeps to its texts. -/
theorem rotP_dec {N : Nat} {xs : List Int} (hl : xs.length = N) : decide (∀ i, i < N → 0 ≤ eI xs i ∧ eI xs i < 2) = decide (rotP N xs) := by
  apply decide_eq_decide.2
  constructor
  · intro h
    exact ⟨hl, fun i hi => by have := h i hi; omega⟩
  · rintro ⟨_, h⟩ i hi
    have := h i hi
    omega

set_option maxRecDepth 100000 in
set_option maxHeartbeats 4000000 in
theorem iTurnsP_any (N k f : Nat) (ps : Option Addr) (xs : List Int) (w : World) (hN : 1 ≤ N) (hN2 : N ≤ 20) (hk9 : k ≤ 1048576) (hx : xs.length = k) (hrx : SeesI w ps xs) :
    Calls Try.prog 41 #[.slice ps k f, .int .i64 N] w fun e w' => e = .returned (.bool (decide (rotP N xs))) ∧ w' = w := by
  by_cases hkN : k = N
  · subst hkN
    obtain ⟨xb, xo, rfl, hrd⟩ : ∃ xb xo, ps = some ⟨xb, xo, none⟩ ∧ ReadsI w xb xo xs := by
      rcases hrx with h | ⟨xb, xo, h1, h2⟩
      · exact absurd (congrArg List.length h) (by rw [hx]; simp; omega)
      · exact ⟨xb, xo, h1, h2⟩
    have Hrd := hid hrd
    have Hx := hid hx
    rw [← rotP_dec hx]
    obtain ⟨r, hR⟩ : ∃ r, decide (∀ i, i < k → 0 ≤ eI xs i ∧ eI xs i < 2) = r := ⟨_, rfl⟩
    rw [hR]
    have HR := hid hR
    have hcmp : ((k : Int) == (k : Int)) = true := by simp
    clear hrx hrd hx hR
    go_enter Try.func41, Try.ntmps41
    go_wp2_with (go_at_call 67; refine (iAreBelow_any 2 xb xo k f xs _ Hx.out hk9 Hrd.out).mono ?_; rw [HR.out]; rintro e' w' ⟨rfl, rfl⟩)
    go_ret
    exact ⟨rfl, rfl⟩
  · have hcmp : ((k : Int) == (N : Int)) = false := by
      have h : ¬ (k : Int) = (N : Int) := by omega
      simpa using h
    rw [decide_eq_false (fun h : rotP N xs => hkN (by rw [← hx]; exact h.1))]
    clear hrx hx hkN
    go_enter Try.func41, Try.ntmps41
    go_wp2
    go_ret
    exact ⟨rfl, rfl⟩

set_option maxRecDepth 100000 in
set_option maxHeartbeats 8000000 in
theorem iRot_any (s : Int) (p ps : Option Addr) (n c k f : Nat) (es : List (Int × Int)) (xs : List Int) (w : World) (hm : n ≤ 1048576) (hn : es.length = n) (hr : SeesE w p es) (hk9 : k ≤ 1048576) (hx : xs.length = k) (hrx : SeesI w ps xs) :
    Calls Try.prog 46 #[.agg #[.int .i64 s, .slice p n c], .slice ps k f] w fun e' w' => e' = .returned (.int .i64 (rotCode s es xs)) ∧ Below w.heap.size w w' := by
  have Hn := hid hn
  have Hr := hid hr
  have Hx := hid hx
  have Hrx := hid hrx
  unfold rotCode
  by_cases g : IsG s es
  · rw [if_pos g]
    obtain ⟨N, rfl⟩ : ∃ N : Nat, s = N := ⟨_, (Int.toNat_of_nonneg (by have := g.1.1.1; omega)).symm⟩
    rw [Int.toNat_natCast]
    have G := hid g
    have hN20 : N ≤ 20 := by have := g.1.1.2.1; omega
    have hN2 : 1 ≤ N := by have := g.1.1.1; omega
    by_cases gr : rotP N xs
    all_goals
      have GR := hid gr
      first | rw [if_pos GR.out] | rw [if_neg GR.out]
      clear gr
    all_goals
      go_enter Try.func46, Try.ntmps46
      go_wp2_with fail
      refine (iIsGraph_any _ _ _ _ es _ hm Hn.out (Hr.out.on (on_alloc _ _))).mono ?_
      rw [decide_eq_true G.out]
      rintro e w2 ⟨rfl, hb2⟩
      have hX2 := (Box.new w N p n c 30).on hb2
      have hx2 := hX2.1
      have hy2 := hX2.2
      have hz2 := hX2.lt
      have HB2 := hid (bfrom (w := w) (on_alloc _ _) hb2)
      clear hb2 hX2
      go_wp2_with fail
      refine (iTurnsP_any N k f ps xs _ hN2 hN20 hk9 Hx.out (Hrx.out.on HB2.out)).mono ?_
      first | rw [decide_eq_true GR.out] | rw [decide_eq_false GR.out]
      rintro e w3 ⟨rfl, rfl⟩
      go_wp2
      go_ret
      exact ⟨rfl, HB2.out⟩
  · rw [if_neg g]
    have G := hid g
    clear hn hr hx hrx g
    go_enter Try.func46, Try.ntmps46
    go_wp2_with fail
    refine (iIsGraph_any _ _ _ _ es _ hm Hn.out (Hr.out.on (on_alloc _ _))).mono ?_
    rw [decide_eq_false G.out]
    rintro e w2 ⟨rfl, hb2⟩
    have HB2 := hid (bfrom (w := w) (on_alloc _ _) hb2)
    clear hb2
    go_wp2
    go_ret
    exact ⟨rfl, HB2.out⟩

set_option maxRecDepth 100000 in
set_option maxHeartbeats 4000000 in
theorem iConC_any (N b off n c : Nat) (es : List (Int × Int)) (w : World) (hn : es.length = n) (hr : ReadsE w b off es) (g : IsG N es) :
    Calls Try.prog 52 #[.agg #[.int .i64 N, .slice (some ⟨b, off, none⟩) n c]] w fun e' w' => e' = .returned (.int .i64 (if numP N es = 1 then 0 else 5)) ∧ Below w.heap.size w w' := by
  have hn30 : n ≤ 30 := by have := isG_len g; omega
  have Hn := hid hn
  have HRd := hid hr
  have G := hid g
  clear hn hr g
  obtain ⟨m, hmm⟩ : ∃ m, numP N es = m := ⟨_, rfl⟩
  rw [hmm]
  have HM := hid hmm
  clear hmm
  have hcases : ((m : Int) != 1) = false ∧ (if m = 1 then (0 : Int) else 5) = 0 ∨ ((m : Int) != 1) = true ∧ (if m = 1 then (0 : Int) else 5) = 5 := by
    by_cases h : m = 1
    · left; subst h; exact ⟨by simp, by simp⟩
    · right
      have h2 : ¬ (m : Int) = 1 := by omega
      exact ⟨by simpa using h2, by rw [if_neg h]⟩
  rcases hcases with ⟨h1, h2⟩ | ⟨h1, h2⟩
  all_goals
    rw [h2]
    clear h2
    go_enter Try.func52, Try.ntmps52
    go_wp2_with fail
    refine (iIsGraph_any _ _ _ _ es _ (by omega) Hn.out (.inr ⟨b, off, rfl, HRd.out.on (on_alloc _ _)⟩)).mono ?_
    rw [decide_eq_true G.out]
    rintro e w2 ⟨rfl, hb2⟩
    have HB2 := hid (bfrom (w := w) (on_alloc _ _) hb2)
    have hX2 := (Box.new w N (some ⟨b, off, none⟩) n c 30).on hb2
    have hx2 := hX2.1
    have hy2 := hX2.2
    have hz2 := hX2.lt
    clear hX2 hb2
    go_wp2_with fail
    refine (iParts_any N b off n c es _ Hn.out hn30 (isG_block G.out (HRd.out.on HB2.out)) (HRd.out.on HB2.out) (endsIn_of G.out) (isG_diff G.out) (isG_twenty G.out)).mono ?_
    rintro e w3 ⟨q, cap, vals, rfl, hP, hb3⟩
    rw [HM.out]
    have HB3 := hid (bfrom HB2.out hb3)
    clear hx2 hy2 hz2 hb3 hP
    go_wp2
    go_ret
    exact ⟨rfl, HB3.out⟩

set_option maxRecDepth 100000 in
set_option maxHeartbeats 4000000 in
theorem iGen_any (N b off n c f xb xo : Nat) (es : List (Int × Int)) (xs : List Int) (w : World) (hn : es.length = n) (hr : ReadsE w b off es) (g : IsG N es) (hx : rotP N xs) (hrx : ReadsI w xb xo xs) :
    Calls Try.prog 53 #[.agg #[.int .i64 N, .slice (some ⟨b, off, none⟩) n c], .slice (some ⟨xb, xo, none⟩) N f] w fun e' w' => e' = .returned (.int .i64 (genR N es xs)) ∧ Below w.heap.size w w' := by
  have hk20 : N ≤ 20 := by have := g.1.1.2.1; omega
  have hn30 : n ≤ 30 := by have := isG_len g; omega
  unfold genR
  rw [hn]
  have Hn := hid hn
  have Hr := hid hr
  have G := hid g
  have Hx := hid hx
  have Hrx := hid hrx
  obtain ⟨L, hL⟩ : ∃ L, faceL (nxD es xs) (2 * n) (2 * n) = L := ⟨_, rfl⟩
  have hL60 : L.length ≤ 60 := by rw [← hL]; exact Nat.le_trans (faceL_len _ _ _) (by omega)
  obtain ⟨K, hK⟩ : ∃ K, L.length = K := ⟨_, rfl⟩
  rw [hL, hK]
  rw [hK] at hL60
  have HL := hid hL
  have HK := hid hK
  have e1 : IntKind.i64.wrap (2 - (N : Int)) = 2 - (N : Int) := IntWalk.i64_in _ (by omega)
  have e2 : IntKind.i64.wrap (2 - (N : Int) + (n : Int)) = 2 - (N : Int) + (n : Int) := IntWalk.i64_in _ (by omega)
  have e3 : IntKind.i64.wrap (2 - (N : Int) + (n : Int) - (K : Int)) = 2 - (N : Int) + (n : Int) - (K : Int) := IntWalk.i64_in _ (by omega)
  have e4 : IntKind.i64.wrap ((2 - (N : Int) + (n : Int) - (K : Int)).tdiv 2) = (2 - (N : Int) + (n : Int) - (K : Int)).tdiv 2 := IntWalk.i64_in _ (by
    obtain ⟨X, hX⟩ : ∃ X, 2 - (N : Int) + (n : Int) - (K : Int) = X := ⟨_, rfl⟩
    rw [hX]
    rcases Int.le_total 0 X with h | h
    · rw [Int.tdiv_eq_ediv_of_nonneg h]; omega
    · have h2 := Int.neg_tdiv (a := -X) (b := 2)
      rw [Int.neg_neg, Int.tdiv_eq_ediv_of_nonneg (show 0 ≤ -X by omega)] at h2
      rw [h2]; omega)
  clear hn hr g hx hrx hL hK
  go_enter Try.func53, Try.ntmps53
  have HB0 := hid (on_alloc w (.cells #[.int .i64 N, .slice (some ⟨b, off, none⟩) n c] 30))
  have HX0 := hid (Box.new w N (some ⟨b, off, none⟩) n c 30)
  go_wp2_with fail
  refine (iFaces_any N b off n c xb xo f es xs _ Hn.out (Hr.out.on HB0.out) G.out Hx.out (Hrx.out.on HB0.out)).mono ?_
  rw [HL.out, HK.out]
  rintro e w5 ⟨q, cap, ba, rfl, _, _, _, hb5⟩
  have HB5 := hid (bfrom HB0.out hb5)
  have hX5 := HX0.out.on hb5
  have hx5 := hX5.1
  have hy5 := hX5.2
  have hz5 := hX5.lt
  clear hb5 hX5
  go_wp2
  go_ret
  exact ⟨rfl, HB5.out⟩

set_option maxRecDepth 100000 in
set_option maxHeartbeats 4000000 in
theorem iGof_code (s q0 : Int) (p ps : Option Addr) (n c k f : Nat) (es : List (Int × Int)) (xs : List Int) (w : World) (hm : n ≤ 1048576) (hn : es.length = n) (hr : SeesE w p es) (hk9 : k ≤ 1048576) (hx : xs.length = k) (hrx : SeesI w ps xs) (hq : rotCode s es xs = q0) (hne : (q0 != 0) = true) :
    Calls Try.prog 26 #[.agg #[.int .i64 s, .slice p n c], .slice ps k f] w fun e' w' => e' = .returned (.tuple #[.int .i64 0, .int .i64 q0]) ∧ Below w.heap.size w w' := by
  have Hn := hid hn
  have Hr := hid hr
  have Hx := hid hx
  have Hrx := hid hrx
  have HQ := hid hq
  clear hn hr hx hrx hq
  go_enter Try.func26, Try.ntmps26
  go_wp2_with fail
  refine (iRot_any _ _ _ _ _ _ _ es xs _ hm Hn.out (Hr.out.on (on_alloc _ _)) hk9 Hx.out (Hrx.out.on (on_alloc _ _))).mono ?_
  rw [HQ.out]
  rintro e w2 ⟨rfl, hb2⟩
  have HB2 := hid (bfrom (w := w) (on_alloc _ _) hb2)
  clear hb2
  go_wp2
  go_ret2
  exact ⟨rfl, HB2.out⟩

set_option maxRecDepth 100000 in
set_option maxHeartbeats 4000000 in
theorem iGof_yes (N b off n c k f xb xo : Nat) (es : List (Int × Int)) (xs : List Int) (w : World) (hn : es.length = n) (hr : ReadsE w b off es) (g : IsG N es) (hk : k = N) (hx : rotP N xs) (hrx : ReadsI w xb xo xs) :
    Calls Try.prog 26 #[.agg #[.int .i64 N, .slice (some ⟨b, off, none⟩) n c], .slice (some ⟨xb, xo, none⟩) k f] w fun e' w' => e' = .returned (.tuple #[.int .i64 (if numP N es = 1 then (genR N es xs, (0 : Int)) else (0, 5)).1, .int .i64 (if numP N es = 1 then (genR N es xs, (0 : Int)) else (0, 5)).2]) ∧ Below w.heap.size w w' := by
  subst hk
  have hk20 : k ≤ 20 := by have := g.1.1.2.1; omega
  have hn30 : n ≤ 30 := by have := isG_len g; omega
  have Hn := hid hn
  have Hr := hid hr
  have G := hid g
  have Hx := hid hx
  have Hrx := hid hrx
  have HQ := hid (show rotCode k es xs = 0 by unfold rotCode; rw [if_pos g, Int.toNat_natCast, if_pos hx])
  obtain ⟨R, hR⟩ : ∃ R, genR k es xs = R := ⟨_, rfl⟩
  rw [hR]
  have HR := hid hR
  clear hn hr g hx hrx hR
  by_cases gc : numP k es = 1
  all_goals
    have GC := hid gc
    first | rw [if_pos GC.out] | rw [if_neg GC.out]
    clear gc
    go_enter Try.func26, Try.ntmps26
    go_wp2_with fail
    refine (iRot_any _ _ _ _ _ _ _ es xs _ (by omega) Hn.out (SeesE.on (.inr ⟨b, off, rfl, Hr.out⟩) (on_alloc _ _)) (by omega) Hx.out.1 (SeesI.on (.inr ⟨xb, xo, rfl, Hrx.out⟩) (on_alloc _ _))).mono ?_
    rw [HQ.out]
    rintro e w3 ⟨rfl, hb3⟩
    have HB3 := hid (bfrom (w := w) (on_alloc _ _) hb3)
    have HX3 := hid ((Box.new w k (some ⟨b, off, none⟩) n c 30).on hb3)
    have hx3 := HX3.out.1
    have hy3 := HX3.out.2
    have hz3 := HX3.out.lt
    clear hb3
    go_wp2_with fail
    refine (iConC_any k b off n c es _ Hn.out (Hr.out.on HB3.out) G.out).mono ?_
    first | rw [if_pos GC.out] | rw [if_neg GC.out]
    rintro e w4 ⟨rfl, hb4⟩
    have HB4 := hid (bfrom HB3.out hb4)
    have HX4 := hid (HX3.out.on hb4)
    have hx4 := HX4.out.1
    have hy4 := HX4.out.2
    have hz4 := HX4.out.lt
    clear hx3 hy3 hz3 hb4
  · go_wp2_with fail
    refine (iGen_any k b off n c f xb xo es xs _ Hn.out (Hr.out.on HB4.out) G.out Hx.out (Hrx.out.on HB4.out)).mono ?_
    rw [HR.out]
    rintro e w5 ⟨rfl, hb5⟩
    have HB5 := hid (bfrom HB4.out hb5)
    clear hx4 hy4 hz4 hb5
    go_wp2
    go_ret2
    exact ⟨rfl, HB5.out⟩
  · go_wp2
    go_ret2
    exact ⟨rfl, HB4.out⟩

theorem iGenusOfRotation_any (s : Int) (p : Option Addr) (n c : Nat) (es : List (Int × Int)) (ps : Option Addr) (k f : Nat) (xs : List Int) (w : World) (hm : n ≤ 1048576) (hn : es.length = n) (hr : SeesE w p es) (hk : k ≤ 1048576) (hx : xs.length = k) (hrx : SeesI w ps xs) :
    Calls Try.prog 26 #[.agg #[.int .i64 s, .slice p n c], .slice ps k f] w fun e' w' => e' = .returned (.tuple #[.int .i64 (fGenusOfRotation s es xs).1, .int .i64 (fGenusOfRotation s es xs).2]) ∧ Below w.heap.size w w' := by
  unfold fGenusOfRotation
  by_cases g : IsG s es
  · rw [if_pos g]
    obtain ⟨N, rfl⟩ : ∃ N : Nat, s = N := ⟨_, (Int.toNat_of_nonneg (by have := g.1.1.1; omega)).symm⟩
    rw [Int.toNat_natCast]
    by_cases gs : rotP N xs
    · rw [if_pos gs]
      obtain ⟨b, off, rfl, rd⟩ := isG_sees g hr
      have hkN : k = N := by rw [← hx]; exact gs.1
      rcases hrx with h | ⟨xb, xo, rfl, h2⟩
      · have := g.1.1.1
        exact absurd (congrArg List.length h) (by rw [hx]; simp; omega)
      · exact iGof_yes N b off n c k f xb xo es xs w hn rd g hkN gs h2
    · rw [if_neg gs]
      exact iGof_code N 2 p ps n c k f es xs w hm hn hr hk hx hrx (by unfold rotCode; rw [if_pos g, Int.toNat_natCast, if_neg gs]) rfl
  · rw [if_neg g]
    exact iGof_code s 1 p ps n c k f es xs w hm hn hr hk hx hrx (by unfold rotCode; rw [if_neg g]) rfl

end Go.Proofs.Ytnimlipogphhmaa
