/- Rotations in the model: l07Rotation, FacesOf, GenusOfRotation; in the program: codeOfRotation. -/
import Derived.Test.YtnimlipogphhmaaFacS
import Derived.Test.YtnimlipogphhmaaSeesM
import Derived.Test.YtnimlipogphhmaaPartsS
import Derived.Test.YtnimlipogphhmaaSpecC
import Derived.Test.YtnimlipogphhmaaImplG
import Derived.Deep.RegionWith
import Derived.Deep.RegionHeld3
namespace Go.Proofs.Ytnimlipogphhmaa
open Go.RowKit

attribute [local go_sem] Oper.semAt_some

def rotCode (s : Int) (es : List (Int × Int)) (xs : List Int) : Int := if IsG s es then (if rotP s.toNat xs then 0 else 2) else 1
def fFacesOf (s : Int) (es : List (Int × Int)) (xs : List Int) : List (List Int) × Int := if IsG s es then (if rotP s.toNat xs then (faceL (nxD es xs) (2 * es.length) (2 * es.length), 0) else ([], 2)) else ([], 1)
def genR (s : Int) (es : List (Int × Int)) (xs : List Int) : Int := (2 - s + (es.length : Int) - ((faceL (nxD es xs) (2 * es.length) (2 * es.length)).length : Int)).tdiv 2
def fGenusOfRotation (s : Int) (es : List (Int × Int)) (xs : List Int) : Int × Int := if IsG s es then (if rotP s.toNat xs then (if numP s.toNat es = 1 then (genR s es xs, 0) else (0, 5)) else (0, 2)) else (0, 1)
theorem rotP_bad {N : Nat} {xs : List Int} (hl : xs.length = N) (h : ¬ rotP N xs) : ∃ i, i < N ∧ (eI xs i < 0 ∨ 1 < eI xs i) ∧ ∀ j, j < i → 0 ≤ eI xs j ∧ eI xs j ≤ 1 := by
  have key : ∀ m, m ≤ N → (∀ i, i < m → 0 ≤ eI xs i ∧ eI xs i ≤ 1) ∨ ∃ i, i < N ∧ (eI xs i < 0 ∨ 1 < eI xs i) ∧ ∀ j, j < i → 0 ≤ eI xs j ∧ eI xs j ≤ 1 := by
    intro m
    induction m with
    | zero => intro _; exact .inl (fun i hi => by omega)
    | succ m ih =>
      intro hm
      rcases ih (by omega) with h1 | h1
      · by_cases h2 : 0 ≤ eI xs m ∧ eI xs m ≤ 1
        · refine .inl (fun i hi => ?_)
          rcases Nat.lt_or_ge i m with h3 | h3
          · exact h1 i h3
          · have : i = m := by omega
            subst this
            exact h2
        · exact .inr ⟨m, by omega, by omega, h1⟩
      · exact .inr h1
  rcases key N (Nat.le_refl _) with h1 | h1
  · exact absurd ⟨hl, fun i hi => by have := h1 i hi; omega⟩ h
  · exact h1

set_option maxRecDepth 100000 in
set_option maxHeartbeats 8000000 in
theorem sRot_any (s : Int) (p ps : Option Addr) (n c k f : Nat) (es : List (Int × Int)) (xs : List Int) (w : World) (hm : n ≤ 1048576) (hn : es.length = n) (hr : SeesE w p es) (hk9 : k ≤ 1048576) (hx : xs.length = k) (hrx : SeesI w ps xs) :
    Calls Try.prog 44 #[.agg #[.int .i64 s, .slice p n c], .slice ps k f] w fun e' w' => e' = .returned (.int .i64 (rotCode s es xs)) ∧ Below w.heap.size w w' := by
  have Hn := hid hn
  have Hr := hid hr
  have Hx := hid hx
  have Hrx := hid hrx
  unfold rotCode
  by_cases g : IsG s es
  · rw [if_pos g]
    obtain ⟨N, rfl⟩ : ∃ N : Nat, s = N := ⟨_, (Int.toNat_of_nonneg (by have := g.1.1.1; omega)).symm⟩
    rw [Int.toNat_natCast]
    have G := hid g
    have hN20 : N ≤ 20 := by have := g.1.1.2.1; omega
    have hN2 : 2 ≤ N := by have := g.1.1.1; omega
    by_cases hkN : k = N
    · obtain ⟨xb, xo, rfl, hrd⟩ : ∃ xb xo, ps = some ⟨xb, xo, none⟩ ∧ ReadsI w xb xo xs := by
        rcases hrx with h | ⟨xb, xo, h1, h2⟩
        · exact absurd (congrArg List.length h) (by rw [hx]; simp; omega)
        · exact ⟨xb, xo, h1, h2⟩
      have Hrd := hid hrd
      obtain ⟨r, hR⟩ : ∃ r : Int, (if rotP N xs then (0 : Int) else 2) = r := ⟨_, rfl⟩
      rw [hR]
      have HR := hid hR
      have hcmp : ((k : Int) != (N : Int)) = false := by rw [hkN]; simp
      have HkN := hid hkN
      clear hn hr hx hrx g hrd hR hkN
      go_enter Try.func44, Try.ntmps44
      go_wp2_with fail
      refine (sIs_any _ _ _ _ es _ (by omega) Hn.out (Hr.out.on (on_alloc _ _))).mono ?_
      rw [decide_eq_true G.out]
      rintro e w2 ⟨rfl, hb2⟩
      have hX2 := (Box.new w N p n c 30).on hb2
      have hx2 := hX2.1
      have hy2 := hX2.2
      have hz2 := hX2.lt
      have HB2 := hid (bfrom (w := w) (on_alloc _ _) hb2)
      clear hb2 hX2
      go_wp2
      go_loopw [5] (fun v wr => ∃ i : Nat, i ≤ k ∧ v = .int .i64 i ∧ w2 = wr ∧ Hid (∀ j, j < i → 0 ≤ eI xs j ∧ eI xs j ≤ 1)) (fun v _ => k - (intOf v).toNat)
      case atStart => exact ⟨0, Nat.zero_le _, rfl, rfl, hid (fun j hj => by omega)⟩
      case round =>
        obtain ⟨i, hi, rfl, rfl, hE⟩ := hrel
        by_cases hlt : i < k
        · have hlt' : (i : Int) < (k : Int) := by omega
          have hc := Hrd.out.on HB2.out i (by rw [Hx.out]; exact hlt)
          obtain ⟨y, hy⟩ : ∃ y, eI xs i = y := ⟨_, rfl⟩
          rw [hy] at hc
          have HY := hid hy
          clear hy
          by_cases hv : 0 ≤ y ∧ y ≤ 1
          · have Hv := hid hv
            clear hv
            go_wp2_with (go_at_call 37; refine (sIn_yes _ _ _ _ Hv.out).mono ?_; rintro e' w' ⟨rfl, rfl⟩)
            go_roundw
            case rel => exact ⟨i + 1, by omega, by go_num, trivial, hid (fun j hj => by
              rcases Nat.lt_or_ge j i with h | h
              · exact hE.out j h
              · have ej : j = i := by omega
                rw [ej, HY.out]; exact Hv.out)⟩
            case measure => simp [intOf]; omega
          · have Hv := hid (show y < 0 ∨ 1 < y by omega)
            have HR2 := hid (show r = 2 by
              rw [← HR.out, if_neg (fun h => by
                have h1 := h.2 i (by have := HkN.out; omega)
                rw [HY.out] at h1
                omega)])
            clear hv
            go_wp2_with (go_at_call 37; refine (sIn_no _ _ _ _ Hv.out).mono ?_; rintro e' w' ⟨rfl, rfl⟩)
            go_ret
            exact ⟨by rw [HR2.out]; rfl, HB2.out⟩
        · have HR2 := hid (show r = 0 by
            rw [← HR.out, if_pos ⟨by rw [Hx.out, HkN.out], fun j hj => by
              have := hE.out j (by have := HkN.out; omega)
              omega⟩])
          go_wp2
          go_ret
          exact ⟨by rw [HR2.out]; rfl, HB2.out⟩
    · have hcmp : ((k : Int) != (N : Int)) = true := by
        have h : ¬ (k : Int) = (N : Int) := by omega
        simpa using h
      rw [if_neg (fun h => hkN (by rw [← hx]; exact h.1))]
      clear hn hr hx hrx g hkN
      go_enter Try.func44, Try.ntmps44
      go_wp2_with fail
      refine (sIs_any _ _ _ _ es _ (by omega) Hn.out (Hr.out.on (on_alloc _ _))).mono ?_
      rw [decide_eq_true G.out]
      rintro e w2 ⟨rfl, hb2⟩
      have hX2 := (Box.new w N p n c 30).on hb2
      have hx2 := hX2.1
      have hy2 := hX2.2
      have hz2 := hX2.lt
      have HB2 := hid (bfrom (w := w) (on_alloc _ _) hb2)
      clear hb2 hX2
      go_wp2
      go_ret
      exact ⟨rfl, HB2.out⟩
  · rw [if_neg g]
    have G := hid g
    clear hn hr hx hrx g
    go_enter Try.func44, Try.ntmps44
    go_wp2_with fail
    refine (sIs_any _ _ _ _ es _ (by omega) Hn.out (Hr.out.on (on_alloc _ _))).mono ?_
    rw [decide_eq_false G.out]
    rintro e w2 ⟨rfl, hb2⟩
    have HB2 := hid (bfrom (w := w) (on_alloc _ _) hb2)
    clear hb2
    go_wp2
    go_ret
    exact ⟨rfl, HB2.out⟩

set_option maxRecDepth 100000 in
set_option maxHeartbeats 4000000 in
theorem sFof_code (s q0 : Int) (p ps : Option Addr) (n c k f : Nat) (es : List (Int × Int)) (xs : List Int) (w : World) (hm : n ≤ 1048576) (hn : es.length = n) (hr : SeesE w p es) (hk9 : k ≤ 1048576) (hx : xs.length = k) (hrx : SeesI w ps xs) (hq : rotCode s es xs = q0) (hne : (q0 != 0) = true) :
    Calls Try.prog 19 #[.agg #[.int .i64 s, .slice p n c], .slice ps k f] w fun e' w' => e' = .returned (.tuple #[.slice none 0 0, .int .i64 q0]) ∧ Below w.heap.size w w' := by
  have Hn := hid hn
  have Hr := hid hr
  have Hx := hid hx
  have Hrx := hid hrx
  have HQ := hid hq
  clear hn hr hx hrx hq
  go_enter Try.func19, Try.ntmps19
  go_wp2_with fail
  refine (sRot_any _ _ _ _ _ _ _ es xs _ hm Hn.out (Hr.out.on (on_alloc _ _)) hk9 Hx.out (Hrx.out.on (on_alloc _ _))).mono ?_
  rw [HQ.out]
  rintro e w2 ⟨rfl, hb2⟩
  have HB2 := hid (bfrom (w := w) (on_alloc _ _) hb2)
  clear hb2
  go_wp2
  go_ret2
  exact ⟨rfl, HB2.out⟩

set_option maxRecDepth 100000 in
set_option maxHeartbeats 4000000 in
theorem sFof_yes (N b off n c k f xb xo : Nat) (es : List (Int × Int)) (xs : List Int) (w : World) (hn : es.length = n) (hr : ReadsE w b off es) (g : IsG N es) (hk : k = N) (hx : rotP N xs) (hrx : ReadsI w xb xo xs) :
    Calls Try.prog 19 #[.agg #[.int .i64 N, .slice (some ⟨b, off, none⟩) n c], .slice (some ⟨xb, xo, none⟩) k f] w fun e' w' => ∃ q cap, e' = .returned (.tuple #[.slice q (faceL (nxD es xs) (2 * n) (2 * n)).length cap, .int .i64 0]) ∧ SeesL w' q (faceL (nxD es xs) (2 * n) (2 * n)) ∧ Below w.heap.size w w' := by
  subst hk
  have hk20 : k ≤ 20 := by have := g.1.1.2.1; omega
  have hn30 : n ≤ 30 := by have := isG_len g; omega
  have Hn := hid hn
  have Hr := hid hr
  have G := hid g
  have Hx := hid hx
  have Hrx := hid hrx
  have HQ := hid (show rotCode k es xs = 0 by unfold rotCode; rw [if_pos g, Int.toNat_natCast, if_pos hx])
  clear hn hr g hx hrx
  go_enter Try.func19, Try.ntmps19
  go_wp2_with fail
  refine (sRot_any _ _ _ _ _ _ _ es xs _ (by omega) Hn.out (SeesE.on (.inr ⟨b, off, rfl, Hr.out⟩) (on_alloc _ _)) (by omega) Hx.out.1 (SeesI.on (.inr ⟨xb, xo, rfl, Hrx.out⟩) (on_alloc _ _))).mono ?_
  rw [HQ.out]
  rintro e w3 ⟨rfl, hb3⟩
  have HB3 := hid (bfrom (w := w) (on_alloc _ _) hb3)
  have HX3 := hid ((Box.new w k (some ⟨b, off, none⟩) n c 30).on hb3)
  have hx3 := HX3.out.1
  have hy3 := HX3.out.2
  have hz3 := HX3.out.lt
  clear hb3
  go_wp2_with fail
  refine (sFaces_any k b off n c xb xo f es xs _ Hn.out (Hr.out.on HB3.out) G.out Hx.out (Hrx.out.on HB3.out)).mono ?_
  rintro e w5 ⟨q, cap, vals, rfl, hR5, hb5⟩
  have HR5 := hid hR5.seesL
  have HB5 := hid (bfrom HB3.out hb5)
  clear hx3 hy3 hz3 hb5 hR5
  obtain ⟨L, hL⟩ : ∃ L, faceL (nxD es xs) (2 * n) (2 * n) = L := ⟨_, rfl⟩
  rw [hL] at HR5 ⊢
  have HLe := hid hL
  clear hL
  go_wp2
  go_ret2
  rw [HLe.out]
  exact ⟨q, cap, rfl, HR5.out, HB5.out⟩

theorem sFacesOf_any (s : Int) (p : Option Addr) (n c : Nat) (es : List (Int × Int)) (ps : Option Addr) (k f : Nat) (xs : List Int) (w : World) (hm : n ≤ 1048576) (hn : es.length = n) (hr : SeesE w p es) (hk : k ≤ 1048576) (hx : xs.length = k) (hrx : SeesI w ps xs) :
    Calls Try.prog 19 #[.agg #[.int .i64 s, .slice p n c], .slice ps k f] w fun e' w' => ∃ q cap, e' = .returned (.tuple #[.slice q (fFacesOf s es xs).1.length cap, .int .i64 (fFacesOf s es xs).2]) ∧ SeesL w' q (fFacesOf s es xs).1 ∧ Below w.heap.size w w' := by
  unfold fFacesOf
  by_cases g : IsG s es
  · rw [if_pos g]
    obtain ⟨N, rfl⟩ : ∃ N : Nat, s = N := ⟨_, (Int.toNat_of_nonneg (by have := g.1.1.1; omega)).symm⟩
    rw [Int.toNat_natCast]
    by_cases gs : rotP N xs
    · rw [if_pos gs, hn]
      obtain ⟨b, off, rfl, rd⟩ := isG_sees g hr
      have hkN : k = N := by rw [← hx]; exact gs.1
      rcases hrx with h | ⟨xb, xo, rfl, h2⟩
      · have := g.1.1.1
        exact absurd (congrArg List.length h) (by rw [hx]; simp; omega)
      · exact sFof_yes N b off n c k f xb xo es xs w hn rd g hkN gs h2
    · rw [if_neg gs]
      exact (sFof_code N 2 p ps n c k f es xs w hm hn hr hk hx hrx (by unfold rotCode; rw [if_pos g, Int.toNat_natCast, if_neg gs]) rfl).mono fun _ _ ⟨h1, h2⟩ => ⟨none, 0, h1, .inl rfl, h2⟩
  · rw [if_neg g]
    exact (sFof_code s 1 p ps n c k f es xs w hm hn hr hk hx hrx (by unfold rotCode; rw [if_neg g]) rfl).mono fun _ _ ⟨h1, h2⟩ => ⟨none, 0, h1, .inl rfl, h2⟩

set_option maxRecDepth 100000 in
set_option maxHeartbeats 4000000 in
theorem sGen_any (N b off n c f xb xo : Nat) (es : List (Int × Int)) (xs : List Int) (w : World) (hn : es.length = n) (hr : ReadsE w b off es) (g : IsG N es) (hx : rotP N xs) (hrx : ReadsI w xb xo xs) :
    Calls Try.prog 51 #[.agg #[.int .i64 N, .slice (some ⟨b, off, none⟩) n c], .slice (some ⟨xb, xo, none⟩) N f] w fun e' w' => e' = .returned (.int .i64 (genR N es xs)) ∧ Below w.heap.size w w' := by
  have hk20 : N ≤ 20 := by have := g.1.1.2.1; omega
  have hn30 : n ≤ 30 := by have := isG_len g; omega
  unfold genR
  rw [hn]
  have Hn := hid hn
  have Hr := hid hr
  have G := hid g
  have Hx := hid hx
  have Hrx := hid hrx
  obtain ⟨L, hL⟩ : ∃ L, faceL (nxD es xs) (2 * n) (2 * n) = L := ⟨_, rfl⟩
  have hL60 : L.length ≤ 60 := by rw [← hL]; exact Nat.le_trans (faceL_len _ _ _) (by omega)
  obtain ⟨K, hK⟩ : ∃ K, L.length = K := ⟨_, rfl⟩
  rw [hL, hK]
  rw [hK] at hL60
  have HL := hid hL
  have HK := hid hK
  have e1 : IntKind.i64.wrap (2 - (N : Int)) = 2 - (N : Int) := IntWalk.i64_in _ (by omega)
  have e2 : IntKind.i64.wrap (2 - (N : Int) + (n : Int)) = 2 - (N : Int) + (n : Int) := IntWalk.i64_in _ (by omega)
  have e3 : IntKind.i64.wrap (2 - (N : Int) + (n : Int) - (K : Int)) = 2 - (N : Int) + (n : Int) - (K : Int) := IntWalk.i64_in _ (by omega)
  have e4 : IntKind.i64.wrap ((2 - (N : Int) + (n : Int) - (K : Int)).tdiv 2) = (2 - (N : Int) + (n : Int) - (K : Int)).tdiv 2 := IntWalk.i64_in _ (by
    obtain ⟨X, hX⟩ : ∃ X, 2 - (N : Int) + (n : Int) - (K : Int) = X := ⟨_, rfl⟩
    rw [hX]
    rcases Int.le_total 0 X with h | h
    · rw [Int.tdiv_eq_ediv_of_nonneg h]; omega
    · have h2 := Int.neg_tdiv (a := -X) (b := 2)
      rw [Int.neg_neg, Int.tdiv_eq_ediv_of_nonneg (show 0 ≤ -X by omega)] at h2
      rw [h2]; omega)
  clear hn hr g hx hrx hL hK
  go_enter Try.func51, Try.ntmps51
  have HX0 := hid (Box.new w N (some ⟨b, off, none⟩) n c 30)
  have HB0 := hid (on_alloc w (.cells #[.int .i64 N, .slice (some ⟨b, off, none⟩) n c] 30))
  obtain ⟨w2, hw2⟩ : ∃ w2, w2 = w.alloc (.cells #[.int .i64 N, .slice (some ⟨b, off, none⟩) n c] 30) := ⟨_, rfl⟩
  rw [← hw2] at HX0 HB0
  have hx0 := HX0.out.1
  have hy0 := HX0.out.2
  have hz0 := HX0.out.lt
  go_wp2
  rw [← hw2]
  clear hw2
  go_region_with (go_at_call 45; refine (sFaces_any N b off n c xb xo f es xs _ Hn.out ?_ G.out Hx.out ?_).mono ?_; (exact (Hr.out.on HB0.out).on (by have := Below.refl w2.heap.size w2; go_grown)); (exact (Hrx.out.on HB0.out).on (by have := Below.refl w2.heap.size w2; go_grown)); rw [HL.out, HK.out]; rintro e w5 ⟨q, cap, vals, rfl, _, hb5⟩; have hB5 : Below w2.heap.size w2 w5 := bfrom (by have := Below.refl w2.heap.size w2; go_grown) hb5; obtain ⟨hx5, hy5⟩ := HX0.out.on hB5; have hz5 := (HX0.out.on hB5).lt)
  all_goals
    go_wp2
    go_ret
    exact ⟨rfl, by first | exact bfrom HB0.out hB5 | exact bfrom HB0.out (bdn.mpr hB5)⟩

set_option maxRecDepth 100000 in
set_option maxHeartbeats 4000000 in
theorem sGof_code (s q0 : Int) (p ps : Option Addr) (n c k f : Nat) (es : List (Int × Int)) (xs : List Int) (w : World) (hm : n ≤ 1048576) (hn : es.length = n) (hr : SeesE w p es) (hk9 : k ≤ 1048576) (hx : xs.length = k) (hrx : SeesI w ps xs) (hq : rotCode s es xs = q0) (hne : (q0 != 0) = true) :
    Calls Try.prog 25 #[.agg #[.int .i64 s, .slice p n c], .slice ps k f] w fun e' w' => e' = .returned (.tuple #[.int .i64 0, .int .i64 q0]) ∧ Below w.heap.size w w' := by
  have Hn := hid hn
  have Hr := hid hr
  have Hx := hid hx
  have Hrx := hid hrx
  have HQ := hid hq
  clear hn hr hx hrx hq
  go_enter Try.func25, Try.ntmps25
  go_wp2_with fail
  refine (sRot_any _ _ _ _ _ _ _ es xs _ hm Hn.out (Hr.out.on (on_alloc _ _)) hk9 Hx.out (Hrx.out.on (on_alloc _ _))).mono ?_
  rw [HQ.out]
  rintro e w2 ⟨rfl, hb2⟩
  have HB2 := hid (bfrom (w := w) (on_alloc _ _) hb2)
  clear hb2
  go_wp2
  go_ret2
  exact ⟨rfl, HB2.out⟩

set_option maxRecDepth 100000 in
set_option maxHeartbeats 4000000 in
theorem sGof_yes (N b off n c k f xb xo : Nat) (es : List (Int × Int)) (xs : List Int) (w : World) (hn : es.length = n) (hr : ReadsE w b off es) (g : IsG N es) (hk : k = N) (hx : rotP N xs) (hrx : ReadsI w xb xo xs) :
    Calls Try.prog 25 #[.agg #[.int .i64 N, .slice (some ⟨b, off, none⟩) n c], .slice (some ⟨xb, xo, none⟩) k f] w fun e' w' => e' = .returned (.tuple #[.int .i64 (if numP N es = 1 then (genR N es xs, (0 : Int)) else (0, 5)).1, .int .i64 (if numP N es = 1 then (genR N es xs, (0 : Int)) else (0, 5)).2]) ∧ Below w.heap.size w w' := by
  subst hk
  have hk20 : k ≤ 20 := by have := g.1.1.2.1; omega
  have hn30 : n ≤ 30 := by have := isG_len g; omega
  have Hn := hid hn
  have Hr := hid hr
  have G := hid g
  have Hx := hid hx
  have Hrx := hid hrx
  have HQ := hid (show rotCode k es xs = 0 by unfold rotCode; rw [if_pos g, Int.toNat_natCast, if_pos hx])
  obtain ⟨R, hR⟩ : ∃ R, genR k es xs = R := ⟨_, rfl⟩
  rw [hR]
  have HR := hid hR
  clear hn hr g hx hrx hR
  by_cases gc : numP k es = 1
  all_goals
    have GC := hid gc
    first | rw [if_pos GC.out] | rw [if_neg GC.out]
    clear gc
    go_enter Try.func25, Try.ntmps25
    go_wp2_with fail
    refine (sRot_any _ _ _ _ _ _ _ es xs _ (by omega) Hn.out (SeesE.on (.inr ⟨b, off, rfl, Hr.out⟩) (on_alloc _ _)) (by omega) Hx.out.1 (SeesI.on (.inr ⟨xb, xo, rfl, Hrx.out⟩) (on_alloc _ _))).mono ?_
    rw [HQ.out]
    rintro e w3 ⟨rfl, hb3⟩
    have HB3 := hid (bfrom (w := w) (on_alloc _ _) hb3)
    have HX3 := hid ((Box.new w k (some ⟨b, off, none⟩) n c 30).on hb3)
    have hx3 := HX3.out.1
    have hy3 := HX3.out.2
    have hz3 := HX3.out.lt
    clear hb3
    go_wp2_with fail
    refine (sConnected_any k _ n c es _ Hn.out hn30 hk20 (SeesE.on (.inr ⟨b, off, rfl, Hr.out⟩) HB3.out) (endsIn_of G.out)).mono ?_
    first | rw [show (numP k es == 1) = true by rw [GC.out]; rfl] | rw [show (numP k es == 1) = false by simpa using GC.out]
    rintro e w4 ⟨rfl, hb4⟩
    have HB4 := hid (bfrom HB3.out hb4)
    have HX4 := hid (HX3.out.on hb4)
    have hx4 := HX4.out.1
    have hy4 := HX4.out.2
    have hz4 := HX4.out.lt
    clear hx3 hy3 hz3 hb4
  · go_wp2_with fail
    refine (sGen_any k b off n c f xb xo es xs _ Hn.out (Hr.out.on HB4.out) G.out Hx.out (Hrx.out.on HB4.out)).mono ?_
    rw [HR.out]
    rintro e w5 ⟨rfl, hb5⟩
    have HB5 := hid (bfrom HB4.out hb5)
    clear hx4 hy4 hz4 hb5
    go_wp2
    go_ret2
    exact ⟨rfl, HB5.out⟩
  · go_wp2
    go_ret2
    exact ⟨rfl, HB4.out⟩

theorem sGenusOfRotation_any (s : Int) (p : Option Addr) (n c : Nat) (es : List (Int × Int)) (ps : Option Addr) (k f : Nat) (xs : List Int) (w : World) (hm : n ≤ 1048576) (hn : es.length = n) (hr : SeesE w p es) (hk : k ≤ 1048576) (hx : xs.length = k) (hrx : SeesI w ps xs) :
    Calls Try.prog 25 #[.agg #[.int .i64 s, .slice p n c], .slice ps k f] w fun e' w' => e' = .returned (.tuple #[.int .i64 (fGenusOfRotation s es xs).1, .int .i64 (fGenusOfRotation s es xs).2]) ∧ Below w.heap.size w w' := by
  unfold fGenusOfRotation
  by_cases g : IsG s es
  · rw [if_pos g]
    obtain ⟨N, rfl⟩ : ∃ N : Nat, s = N := ⟨_, (Int.toNat_of_nonneg (by have := g.1.1.1; omega)).symm⟩
    rw [Int.toNat_natCast]
    by_cases gs : rotP N xs
    · rw [if_pos gs]
      obtain ⟨b, off, rfl, rd⟩ := isG_sees g hr
      have hkN : k = N := by rw [← hx]; exact gs.1
      rcases hrx with h | ⟨xb, xo, rfl, h2⟩
      · have := g.1.1.1
        exact absurd (congrArg List.length h) (by rw [hx]; simp; omega)
      · exact sGof_yes N b off n c k f xb xo es xs w hn rd g hkN gs h2
    · rw [if_neg gs]
      exact sGof_code N 2 p ps n c k f es xs w hm hn hr hk hx hrx (by unfold rotCode; rw [if_pos g, Int.toNat_natCast, if_neg gs]) rfl
  · rw [if_neg g]
    exact sGof_code s 1 p ps n c k f es xs w hm hn hr hk hx hrx (by unfold rotCode; rw [if_neg g]) rfl

end Go.Proofs.Ytnimlipogphhmaa
