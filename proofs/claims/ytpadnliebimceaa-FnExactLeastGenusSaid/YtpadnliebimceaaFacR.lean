/- Rotations in the model: l07Rotation, FacesOf, GenusOfRotation; in the program: codeOfRotation. -/
import Derived.Test.YtpadnliebimceaaFacS
import Derived.Test.YtpadnliebimceaaSeesM
import Derived.Test.YtpadnliebimceaaPartsS
import Derived.Test.YtpadnliebimceaaSpecC
import Derived.Test.YtpadnliebimceaaImplG
import Derived.Deep.RegionWith
import Derived.Deep.RegionHeld3
namespace Go.Proofs.Ytpadnliebimceaa
open Go.RowKit

attribute [local go_sem] Oper.semAt_some

def rotCode (s : Int) (es : List (Int × Int)) (xs : List Int) : Int := if IsG s es then (if rotP s.toNat xs then 0 else 2) else 1
def fFacesOf (s : Int) (es : List (Int × Int)) (xs : List Int) : List (List Int) × Int := if IsG s es then (if rotP s.toNat xs then (faceL (nxD es xs) (2 * es.length) (2 * es.length), 0) else ([], 2)) else ([], 1)
def genR (s : Int) (es : List (Int × Int)) (xs : List Int) : Int := (2 - s + (es.length : Int) - ((faceL (nxD es xs) (2 * es.length) (2 * es.length)).length : Int)).tdiv 2
def fGenusOfRotation (s : Int) (es : List (Int × Int)) (xs : List Int) : Int × Int := if IsG s es then (if rotP s.toNat xs then (if numP s.toNat es = 1 then (genR s es xs, 0) else (0, 5)) else (0, 2)) else (0, 1)
theorem rotP_bad {N : Nat} {xs : List Int} (hl : xs.length = N) (h : ¬ rotP N xs) : ∃ i, i < N ∧ (eI xs i < 0 ∨ 1 < eI xs i) ∧ ∀ j, j < i → 0 ≤ eI xs j ∧ eI xs j ≤ 1 := by
  have key : ∀ m, m ≤ N → (∀ i, i < m → 0 ≤ eI xs i ∧ eI xs i ≤ 1) ∨ ∃ i, i < N ∧ (eI xs i < 0 ∨ 1 < eI xs i) ∧ ∀ j, j < i → 0 ≤ eI xs j ∧ eI xs j ≤ 1 := by
    intro m
    induction m with
    | zero => intro _; exact .inl (fun i hi => by omega)
    | succ m ih =>
      intro hm
      rcases ih (by omega) with h1 | h1
      · by_cases h2 : 0 ≤ eI xs m ∧ eI xs m ≤ 1
        · refine .inl (fun i hi => ?_)
          rcases Nat.lt_or_ge i m with h3 | h3
          · exact h1 i h3
          · have : i = m := by omega
            subst this
            exact h2
        · exact .inr ⟨m, by omega, by omega, h1⟩
      · exact .inr h1
  rcases key N (Nat.le_refl _) with h1 | h1
  · exact absurd ⟨hl, fun i hi => by have := h1 i hi; omega⟩ h
  · exact h1





set_option maxRecDepth 100000 in
set_option maxHeartbeats 4000000 in
theorem sGen_any (N b off n c f xb xo : Nat) (es : List (Int × Int)) (xs : List Int) (w : World) (hn : es.length = n) (hr : ReadsE w b off es) (g : IsG N es) (hx : rotP N xs) (hrx : ReadsI w xb xo xs) :
    Calls Try.prog 59 #[.agg #[.int .i64 N, .slice (some ⟨b, off, none⟩) n c], .slice (some ⟨xb, xo, none⟩) N f] w fun e' w' => e' = .returned (.int .i64 (genR N es xs)) ∧ Below w.heap.size w w' := by
  have hk20 : N ≤ 20 := by have := g.1.1.2.1; omega
  have hn30 : n ≤ 30 := by have := isG_len g; omega
  unfold genR
  rw [hn]
  have Hn := hid hn
  have Hr := hid hr
  have G := hid g
  have Hx := hid hx
  have Hrx := hid hrx
  obtain ⟨L, hL⟩ : ∃ L, faceL (nxD es xs) (2 * n) (2 * n) = L := ⟨_, rfl⟩
  have hL60 : L.length ≤ 60 := by rw [← hL]; exact Nat.le_trans (faceL_len _ _ _) (by omega)
  obtain ⟨K, hK⟩ : ∃ K, L.length = K := ⟨_, rfl⟩
  rw [hL, hK]
  rw [hK] at hL60
  have HL := hid hL
  have HK := hid hK
  have e1 : IntKind.i64.wrap (2 - (N : Int)) = 2 - (N : Int) := IntWalk.i64_in _ (by omega)
  have e2 : IntKind.i64.wrap (2 - (N : Int) + (n : Int)) = 2 - (N : Int) + (n : Int) := IntWalk.i64_in _ (by omega)
  have e3 : IntKind.i64.wrap (2 - (N : Int) + (n : Int) - (K : Int)) = 2 - (N : Int) + (n : Int) - (K : Int) := IntWalk.i64_in _ (by omega)
  have e4 : IntKind.i64.wrap ((2 - (N : Int) + (n : Int) - (K : Int)).tdiv 2) = (2 - (N : Int) + (n : Int) - (K : Int)).tdiv 2 := IntWalk.i64_in _ (by
    obtain ⟨X, hX⟩ : ∃ X, 2 - (N : Int) + (n : Int) - (K : Int) = X := ⟨_, rfl⟩
    rw [hX]
    rcases Int.le_total 0 X with h | h
    · rw [Int.tdiv_eq_ediv_of_nonneg h]; omega
    · have h2 := Int.neg_tdiv (a := -X) (b := 2)
      rw [Int.neg_neg, Int.tdiv_eq_ediv_of_nonneg (show 0 ≤ -X by omega)] at h2
      rw [h2]; omega)
  clear hn hr g hx hrx hL hK
  go_enter Try.func59, Try.ntmps59
  have HX0 := hid (Box.new w N (some ⟨b, off, none⟩) n c 24)
  have HB0 := hid (on_alloc w (.cells #[.int .i64 N, .slice (some ⟨b, off, none⟩) n c] 24))
  obtain ⟨w2, hw2⟩ : ∃ w2, w2 = w.alloc (.cells #[.int .i64 N, .slice (some ⟨b, off, none⟩) n c] 24) := ⟨_, rfl⟩
  rw [← hw2] at HX0 HB0
  have hx0 := HX0.out.1
  have hy0 := HX0.out.2
  have hz0 := HX0.out.lt
  go_wp2
  rw [← hw2]
  clear hw2
  go_region_with (go_at_call 110; refine (sFaces_any N b off n c xb xo f es xs _ Hn.out ?_ G.out Hx.out ?_).mono ?_; (exact (Hr.out.on HB0.out).on (by have := Below.refl w2.heap.size w2; go_grown)); (exact (Hrx.out.on HB0.out).on (by have := Below.refl w2.heap.size w2; go_grown)); rw [HL.out, HK.out]; rintro e w5 ⟨q, cap, vals, rfl, _, hb5⟩; have hB5 : Below w2.heap.size w2 w5 := bfrom (by have := Below.refl w2.heap.size w2; go_grown) hb5; obtain ⟨hx5, hy5⟩ := HX0.out.on hB5; have hz5 := (HX0.out.on hB5).lt)
  all_goals
    go_wp2
    go_ret
    exact ⟨rfl, by first | exact bfrom HB0.out hB5 | exact bfrom HB0.out (bdn.mpr hB5)⟩




end Go.Proofs.Ytpadnliebimceaa
