/- GenusOfRotation in the program: codeOfConnected, genusOf, any argument. -/
import Derived.Test.YtpadnliebimceaaFacO
import Derived.Test.YtpadnliebimceaaFacR
import Derived.Test.YtpadnliebimceaaPrs
import Derived.Test.YtpadnliebimceaaConI
namespace Go.Proofs.Ytpadnliebimceaa
open Go.RowKit

attribute [local go_sem] Oper.semAt_some

/- As in FacQ, which this text does not import, so that the claim keeps to its texts. -/
theorem rotP_dec {N : Nat} {xs : List Int} (hl : xs.length = N) : decide (∀ i, i < N → 0 ≤ eI xs i ∧ eI xs i < 2) = decide (rotP N xs) := by
  apply decide_eq_decide.2
  constructor
  · intro h
    exact ⟨hl, fun i hi => by have := h i hi; omega⟩
  · rintro ⟨_, h⟩ i hi
    have := h i hi
    omega

set_option maxRecDepth 100000 in
set_option maxHeartbeats 4000000 in
theorem iTurnsP_any (N k f : Nat) (ps : Option Addr) (xs : List Int) (w : World) (hN : 1 ≤ N) (hN2 : N ≤ 20) (hk9 : k ≤ 1048576) (hx : xs.length = k) (hrx : SeesI w ps xs) :
    Calls Try.prog 54 #[.slice ps k f, .int .i64 N] w fun e w' => e = .returned (.bool (decide (rotP N xs))) ∧ w' = w := by
  by_cases hkN : k = N
  · subst hkN
    obtain ⟨xb, xo, rfl, hrd⟩ : ∃ xb xo, ps = some ⟨xb, xo, none⟩ ∧ ReadsI w xb xo xs := by
      rcases hrx with h | ⟨xb, xo, h1, h2⟩
      · exact absurd (congrArg List.length h) (by rw [hx]; simp; omega)
      · exact ⟨xb, xo, h1, h2⟩
    have Hrd := hid hrd
    have Hx := hid hx
    rw [← rotP_dec hx]
    obtain ⟨r, hR⟩ : ∃ r, decide (∀ i, i < k → 0 ≤ eI xs i ∧ eI xs i < 2) = r := ⟨_, rfl⟩
    rw [hR]
    have HR := hid hR
    have hcmp : ((k : Int) == (k : Int)) = true := by simp
    clear hrx hrd hx hR
    go_enter Try.func54, Try.ntmps54
    go_wp2_with (go_at_call 103; refine (iAreBelow_any 2 xb xo k f xs _ Hx.out hk9 Hrd.out).mono ?_; rw [HR.out]; rintro e' w' ⟨rfl, rfl⟩)
    go_ret
    exact ⟨rfl, rfl⟩
  · have hcmp : ((k : Int) == (N : Int)) = false := by
      have h : ¬ (k : Int) = (N : Int) := by omega
      simpa using h
    rw [decide_eq_false (fun h : rotP N xs => hkN (by rw [← hx]; exact h.1))]
    clear hrx hx hkN
    go_enter Try.func54, Try.ntmps54
    go_wp2
    go_ret
    exact ⟨rfl, rfl⟩


set_option maxRecDepth 100000 in
set_option maxHeartbeats 4000000 in
theorem iConC_any (N b off n c : Nat) (es : List (Int × Int)) (w : World) (hn : es.length = n) (hr : ReadsE w b off es) (g : IsG N es) :
    Calls Try.prog 60 #[.agg #[.int .i64 N, .slice (some ⟨b, off, none⟩) n c]] w fun e' w' => e' = .returned (.int .i64 (if numP N es = 1 then 0 else 5)) ∧ Below w.heap.size w w' := by
  have hn30 : n ≤ 30 := by have := isG_len g; omega
  have Hn := hid hn
  have HRd := hid hr
  have G := hid g
  clear hn hr g
  obtain ⟨m, hmm⟩ : ∃ m, numP N es = m := ⟨_, rfl⟩
  rw [hmm]
  have HM := hid hmm
  clear hmm
  have hcases : ((m : Int) != 1) = false ∧ (if m = 1 then (0 : Int) else 5) = 0 ∨ ((m : Int) != 1) = true ∧ (if m = 1 then (0 : Int) else 5) = 5 := by
    by_cases h : m = 1
    · left; subst h; exact ⟨by simp, by simp⟩
    · right
      have h2 : ¬ (m : Int) = 1 := by omega
      exact ⟨by simpa using h2, by rw [if_neg h]⟩
  rcases hcases with ⟨h1, h2⟩ | ⟨h1, h2⟩
  all_goals
    rw [h2]
    clear h2
    go_enter Try.func60, Try.ntmps60
    go_wp2_with fail
    refine (iIsGraph_any _ _ _ _ es _ (by omega) Hn.out (.inr ⟨b, off, rfl, HRd.out.on (on_alloc _ _)⟩)).mono ?_
    rw [decide_eq_true G.out]
    rintro e w2 ⟨rfl, hb2⟩
    have HB2 := hid (bfrom (w := w) (on_alloc _ _) hb2)
    have hX2 := (Box.new w N (some ⟨b, off, none⟩) n c 24).on hb2
    have hx2 := hX2.1
    have hy2 := hX2.2
    have hz2 := hX2.lt
    clear hX2 hb2
    go_wp2_with fail
    refine (iParts_any N b off n c es _ Hn.out hn30 (isG_block G.out (HRd.out.on HB2.out)) (HRd.out.on HB2.out) (endsIn_of G.out) (isG_diff G.out) (isG_twenty G.out)).mono ?_
    rintro e w3 ⟨q, cap, vals, rfl, hP, hb3⟩
    rw [HM.out]
    have HB3 := hid (bfrom HB2.out hb3)
    clear hx2 hy2 hz2 hb3 hP
    go_wp2
    go_ret
    exact ⟨rfl, HB3.out⟩

set_option maxRecDepth 100000 in
set_option maxHeartbeats 4000000 in
theorem iGen_any (N b off n c f xb xo : Nat) (es : List (Int × Int)) (xs : List Int) (w : World) (hn : es.length = n) (hr : ReadsE w b off es) (g : IsG N es) (hx : rotP N xs) (hrx : ReadsI w xb xo xs) :
    Calls Try.prog 61 #[.agg #[.int .i64 N, .slice (some ⟨b, off, none⟩) n c], .slice (some ⟨xb, xo, none⟩) N f] w fun e' w' => e' = .returned (.int .i64 (genR N es xs)) ∧ Below w.heap.size w w' := by
  have hk20 : N ≤ 20 := by have := g.1.1.2.1; omega
  have hn30 : n ≤ 30 := by have := isG_len g; omega
  unfold genR
  rw [hn]
  have Hn := hid hn
  have Hr := hid hr
  have G := hid g
  have Hx := hid hx
  have Hrx := hid hrx
  obtain ⟨L, hL⟩ : ∃ L, faceL (nxD es xs) (2 * n) (2 * n) = L := ⟨_, rfl⟩
  have hL60 : L.length ≤ 60 := by rw [← hL]; exact Nat.le_trans (faceL_len _ _ _) (by omega)
  obtain ⟨K, hK⟩ : ∃ K, L.length = K := ⟨_, rfl⟩
  rw [hL, hK]
  rw [hK] at hL60
  have HL := hid hL
  have HK := hid hK
  have e1 : IntKind.i64.wrap (2 - (N : Int)) = 2 - (N : Int) := IntWalk.i64_in _ (by omega)
  have e2 : IntKind.i64.wrap (2 - (N : Int) + (n : Int)) = 2 - (N : Int) + (n : Int) := IntWalk.i64_in _ (by omega)
  have e3 : IntKind.i64.wrap (2 - (N : Int) + (n : Int) - (K : Int)) = 2 - (N : Int) + (n : Int) - (K : Int) := IntWalk.i64_in _ (by omega)
  have e4 : IntKind.i64.wrap ((2 - (N : Int) + (n : Int) - (K : Int)).tdiv 2) = (2 - (N : Int) + (n : Int) - (K : Int)).tdiv 2 := IntWalk.i64_in _ (by
    obtain ⟨X, hX⟩ : ∃ X, 2 - (N : Int) + (n : Int) - (K : Int) = X := ⟨_, rfl⟩
    rw [hX]
    rcases Int.le_total 0 X with h | h
    · rw [Int.tdiv_eq_ediv_of_nonneg h]; omega
    · have h2 := Int.neg_tdiv (a := -X) (b := 2)
      rw [Int.neg_neg, Int.tdiv_eq_ediv_of_nonneg (show 0 ≤ -X by omega)] at h2
      rw [h2]; omega)
  clear hn hr g hx hrx hL hK
  go_enter Try.func61, Try.ntmps61
  have HB0 := hid (on_alloc w (.cells #[.int .i64 N, .slice (some ⟨b, off, none⟩) n c] 24))
  have HX0 := hid (Box.new w N (some ⟨b, off, none⟩) n c 24)
  go_wp2_with fail
  refine (iFaces_any N b off n c xb xo f es xs _ Hn.out (Hr.out.on HB0.out) G.out Hx.out (Hrx.out.on HB0.out)).mono ?_
  rw [HL.out, HK.out]
  rintro e w5 ⟨q, cap, ba, rfl, _, _, _, hb5⟩
  have HB5 := hid (bfrom HB0.out hb5)
  have hX5 := HX0.out.on hb5
  have hx5 := hX5.1
  have hy5 := hX5.2
  have hz5 := hX5.lt
  clear hb5 hX5
  go_wp2
  go_ret
  exact ⟨rfl, HB5.out⟩




end Go.Proofs.Ytpadnliebimceaa
