/- FacesOf in the program: codeOfRotation, and any argument. -/
import Derived.Test.YtnimlipogphhmaaFacO
import Derived.Test.YtnimlipogphhmaaFacR
import Derived.Test.YtnimlipogphhmaaPrs
import Derived.Test.YtnimlipogphhmaaPlc
import Derived.Test.YtnimlipogphhmaaFlaP
namespace Go.Proofs.Ytnimlipogphhmaa
open Go.RowKit

attribute [local go_sem] Oper.semAt_some

theorem rotP_dec {N : Nat} {xs : List Int} (hl : xs.length = N) : decide (∀ i, i < N → 0 ≤ eI xs i ∧ eI xs i < 2) = decide (rotP N xs) := by
  apply decide_eq_decide.2
  constructor
  · intro h
    exact ⟨hl, fun i hi => by have := h i hi; omega⟩
  · rintro ⟨_, h⟩ i hi
    have := h i hi
    omega

set_option maxRecDepth 100000 in
set_option maxHeartbeats 4000000 in
theorem iTurnsP_any (N k f : Nat) (ps : Option Addr) (xs : List Int) (w : World) (hN : 1 ≤ N) (hN2 : N ≤ 20) (hk9 : k ≤ 1048576) (hx : xs.length = k) (hrx : SeesI w ps xs) :
    Calls Try.prog 41 #[.slice ps k f, .int .i64 N] w fun e w' => e = .returned (.bool (decide (rotP N xs))) ∧ w' = w := by
  by_cases hkN : k = N
  · subst hkN
    obtain ⟨xb, xo, rfl, hrd⟩ : ∃ xb xo, ps = some ⟨xb, xo, none⟩ ∧ ReadsI w xb xo xs := by
      rcases hrx with h | ⟨xb, xo, h1, h2⟩
      · exact absurd (congrArg List.length h) (by rw [hx]; simp; omega)
      · exact ⟨xb, xo, h1, h2⟩
    have Hrd := hid hrd
    have Hx := hid hx
    rw [← rotP_dec hx]
    obtain ⟨r, hR⟩ : ∃ r, decide (∀ i, i < k → 0 ≤ eI xs i ∧ eI xs i < 2) = r := ⟨_, rfl⟩
    rw [hR]
    have HR := hid hR
    have hcmp : ((k : Int) == (k : Int)) = true := by simp
    clear hrx hrd hx hR
    go_enter Try.func41, Try.ntmps41
    go_wp2_with (go_at_call 67; refine (iAreBelow_any 2 xb xo k f xs _ Hx.out hk9 Hrd.out).mono ?_; rw [HR.out]; rintro e' w' ⟨rfl, rfl⟩)
    go_ret
    exact ⟨rfl, rfl⟩
  · have hcmp : ((k : Int) == (N : Int)) = false := by
      have h : ¬ (k : Int) = (N : Int) := by omega
      simpa using h
    rw [decide_eq_false (fun h : rotP N xs => hkN (by rw [← hx]; exact h.1))]
    clear hrx hx hkN
    go_enter Try.func41, Try.ntmps41
    go_wp2
    go_ret
    exact ⟨rfl, rfl⟩

set_option maxRecDepth 100000 in
set_option maxHeartbeats 8000000 in
theorem iRot_any (s : Int) (p ps : Option Addr) (n c k f : Nat) (es : List (Int × Int)) (xs : List Int) (w : World) (hm : n ≤ 1048576) (hn : es.length = n) (hr : SeesE w p es) (hk9 : k ≤ 1048576) (hx : xs.length = k) (hrx : SeesI w ps xs) :
    Calls Try.prog 46 #[.agg #[.int .i64 s, .slice p n c], .slice ps k f] w fun e' w' => e' = .returned (.int .i64 (rotCode s es xs)) ∧ Below w.heap.size w w' := by
  have Hn := hid hn
  have Hr := hid hr
  have Hx := hid hx
  have Hrx := hid hrx
  unfold rotCode
  by_cases g : IsG s es
  · rw [if_pos g]
    obtain ⟨N, rfl⟩ : ∃ N : Nat, s = N := ⟨_, (Int.toNat_of_nonneg (by have := g.1.1.1; omega)).symm⟩
    rw [Int.toNat_natCast]
    have G := hid g
    have hN20 : N ≤ 20 := by have := g.1.1.2.1; omega
    have hN2 : 1 ≤ N := by have := g.1.1.1; omega
    by_cases gr : rotP N xs
    all_goals
      have GR := hid gr
      first | rw [if_pos GR.out] | rw [if_neg GR.out]
      clear gr
    all_goals
      go_enter Try.func46, Try.ntmps46
      go_wp2_with fail
      refine (iIsGraph_any _ _ _ _ es _ hm Hn.out (Hr.out.on (on_alloc _ _))).mono ?_
      rw [decide_eq_true G.out]
      rintro e w2 ⟨rfl, hb2⟩
      have hX2 := (Box.new w N p n c 30).on hb2
      have hx2 := hX2.1
      have hy2 := hX2.2
      have hz2 := hX2.lt
      have HB2 := hid (bfrom (w := w) (on_alloc _ _) hb2)
      clear hb2 hX2
      go_wp2_with fail
      refine (iTurnsP_any N k f ps xs _ hN2 hN20 hk9 Hx.out (Hrx.out.on HB2.out)).mono ?_
      first | rw [decide_eq_true GR.out] | rw [decide_eq_false GR.out]
      rintro e w3 ⟨rfl, rfl⟩
      go_wp2
      go_ret
      exact ⟨rfl, HB2.out⟩
  · rw [if_neg g]
    have G := hid g
    clear hn hr hx hrx g
    go_enter Try.func46, Try.ntmps46
    go_wp2_with fail
    refine (iIsGraph_any _ _ _ _ es _ hm Hn.out (Hr.out.on (on_alloc _ _))).mono ?_
    rw [decide_eq_false G.out]
    rintro e w2 ⟨rfl, hb2⟩
    have HB2 := hid (bfrom (w := w) (on_alloc _ _) hb2)
    clear hb2
    go_wp2
    go_ret
    exact ⟨rfl, HB2.out⟩

theorem fFacesOf_len (s : Int) (es : List (Int × Int)) (xs : List Int) (h : es.length ≤ 1048576) (_ : xs.length ≤ 1048576) : (fFacesOf s es xs).1.length ≤ 1048576 := by
  unfold fFacesOf
  by_cases g : IsG s es
  · rw [if_pos g]
    have hn := isG_len g
    split
    · exact Nat.le_trans (faceL_len _ _ _) (by have := g.1.1.2.1; omega)
    · simp
  · rw [if_neg g]; simp
theorem fFacesOf_sum (s : Int) (es : List (Int × Int)) (xs : List Int) (_ : es.length ≤ 1048576) (_ : xs.length ≤ 1048576) : 1 + sumLL (fFacesOf s es xs).1 (fFacesOf s es xs).1.length ≤ 1048576 := by
  unfold fFacesOf
  by_cases g : IsG s es
  · rw [if_pos g]
    obtain ⟨N, rfl⟩ : ∃ N : Nat, s = N := ⟨_, (Int.toNat_of_nonneg (by have := g.1.1.1; omega)).symm⟩
    have hn := isG_len g
    have hN := g.1.1.2.1
    split
    · show 1 + sumLL (faceL (nxD es xs) (2 * es.length) (2 * es.length)) (faceL (nxD es xs) (2 * es.length) (2 * es.length)).length ≤ 1048576
      rw [sumLL_flat, face_flat, List.length_map]
      have := flN_len (perm_nxD (xs := xs) g) (k := 2 * es.length) (Nat.le_refl _)
      omega
    · simp [sumLL]
  · rw [if_neg g]; simp [sumLL]

set_option maxRecDepth 100000 in
set_option maxHeartbeats 4000000 in
theorem iFof_code (s q0 : Int) (p ps : Option Addr) (n c k f : Nat) (es : List (Int × Int)) (xs : List Int) (w : World) (hm : n ≤ 1048576) (hn : es.length = n) (hr : SeesE w p es) (hk9 : k ≤ 1048576) (hx : xs.length = k) (hrx : SeesI w ps xs) (hq : rotCode s es xs = q0) (hne : (q0 != 0) = true) :
    Calls Try.prog 20 #[.agg #[.int .i64 s, .slice p n c], .slice ps k f] w fun e' w' => e' = .returned (.tuple #[.slice none 0 0, .int .i64 q0]) ∧ Below w.heap.size w w' := by
  have Hn := hid hn
  have Hr := hid hr
  have Hx := hid hx
  have Hrx := hid hrx
  have HQ := hid hq
  clear hn hr hx hrx hq
  go_enter Try.func20, Try.ntmps20
  go_wp2_with fail
  refine (iRot_any _ _ _ _ _ _ _ es xs _ hm Hn.out (Hr.out.on (on_alloc _ _)) hk9 Hx.out (Hrx.out.on (on_alloc _ _))).mono ?_
  rw [HQ.out]
  rintro e w2 ⟨rfl, hb2⟩
  have HB2 := hid (bfrom (w := w) (on_alloc _ _) hb2)
  clear hb2
  go_wp2
  go_ret2
  exact ⟨rfl, HB2.out⟩

set_option maxRecDepth 100000 in
set_option maxHeartbeats 4000000 in
theorem iFof_yes (N b off n c k f xb xo : Nat) (es : List (Int × Int)) (xs : List Int) (w : World) (hn : es.length = n) (hr : ReadsE w b off es) (g : IsG N es) (hk : k = N) (hx : rotP N xs) (hrx : ReadsI w xb xo xs) :
    Calls Try.prog 20 #[.agg #[.int .i64 N, .slice (some ⟨b, off, none⟩) n c], .slice (some ⟨xb, xo, none⟩) k f] w fun e' w' => ∃ q cap, e' = .returned (.tuple #[.slice q (faceL (nxD es xs) (2 * n) (2 * n)).length cap, .int .i64 0]) ∧ FreshP w.heap.size w' q (faceL (nxD es xs) (2 * n) (2 * n)).length (faceL (nxD es xs) (2 * n) (2 * n)) ∧ Below w.heap.size w w' := by
  subst hk
  have hk20 : k ≤ 20 := by have := g.1.1.2.1; omega
  have hn30 : n ≤ 30 := by have := isG_len g; omega
  have Hn := hid hn
  have Hr := hid hr
  have G := hid g
  have Hx := hid hx
  have Hrx := hid hrx
  have HQ := hid (show rotCode k es xs = 0 by unfold rotCode; rw [if_pos g, Int.toNat_natCast, if_pos hx])
  clear hn hr g hx hrx
  go_enter Try.func20, Try.ntmps20
  go_wp2_with fail
  refine (iRot_any _ _ _ _ _ _ _ es xs _ (by omega) Hn.out (SeesE.on (.inr ⟨b, off, rfl, Hr.out⟩) (on_alloc _ _)) (by omega) Hx.out.1 (SeesI.on (.inr ⟨xb, xo, rfl, Hrx.out⟩) (on_alloc _ _))).mono ?_
  rw [HQ.out]
  rintro e w3 ⟨rfl, hb3⟩
  have HB3 := hid (bfrom (w := w) (on_alloc _ _) hb3)
  have HX3 := hid ((Box.new w k (some ⟨b, off, none⟩) n c 30).on hb3)
  have hx3 := HX3.out.1
  have hy3 := HX3.out.2
  have hz3 := HX3.out.lt
  have hs3 := HB3.out.size
  clear hb3
  go_wp2_with fail
  refine (iFaces_any k b off n c xb xo f es xs _ Hn.out (Hr.out.on HB3.out) G.out Hx.out (Hrx.out.on HB3.out)).mono ?_
  rintro e w5 ⟨q, cap, ba, rfl, hR5, hO5, hba, hb5⟩
  have HR5 := hid (FreshP.flat hR5 rfl hO5 hba)
  have HB5 := hid (bfrom HB3.out hb5)
  clear hx3 hy3 hz3 hb5 hR5 hO5
  obtain ⟨L, hL⟩ : ∃ L, faceL (nxD es xs) (2 * n) (2 * n) = L := ⟨_, rfl⟩
  rw [hL] at HR5 ⊢
  have HLe := hid hL
  clear hL
  go_wp2
  go_ret2
  rw [HLe.out]
  exact ⟨q, cap, rfl, HR5.out.less hs3, HB5.out⟩

theorem iFacesOf_any (s : Int) (p : Option Addr) (n c : Nat) (es : List (Int × Int)) (ps : Option Addr) (k f : Nat) (xs : List Int) (w : World) (hm : n ≤ 1048576) (hn : es.length = n) (hr : SeesE w p es) (hk : k ≤ 1048576) (hx : xs.length = k) (hrx : SeesI w ps xs) :
    Calls Try.prog 20 #[.agg #[.int .i64 s, .slice p n c], .slice ps k f] w fun e' w' => ∃ q cap, e' = .returned (.tuple #[.slice q (fFacesOf s es xs).1.length cap, .int .i64 (fFacesOf s es xs).2]) ∧ FreshP w.heap.size w' q (fFacesOf s es xs).1.length (fFacesOf s es xs).1 ∧ Below w.heap.size w w' := by
  unfold fFacesOf
  by_cases g : IsG s es
  · rw [if_pos g]
    obtain ⟨N, rfl⟩ : ∃ N : Nat, s = N := ⟨_, (Int.toNat_of_nonneg (by have := g.1.1.1; omega)).symm⟩
    rw [Int.toNat_natCast]
    by_cases gs : rotP N xs
    · rw [if_pos gs, hn]
      obtain ⟨b, off, rfl, rd⟩ := isG_sees g hr
      have hkN : k = N := by rw [← hx]; exact gs.1
      rcases hrx with h | ⟨xb, xo, rfl, h2⟩
      · have := g.1.1.1
        exact absurd (congrArg List.length h) (by rw [hx]; simp; omega)
      · exact iFof_yes N b off n c k f xb xo es xs w hn rd g hkN gs h2
    · rw [if_neg gs]
      exact (iFof_code N 2 p ps n c k f es xs w hm hn hr hk hx hrx (by unfold rotCode; rw [if_pos g, Int.toNat_natCast, if_neg gs]) rfl).mono fun _ _ ⟨h1, h2⟩ => ⟨none, 0, h1, ⟨rfl, .inl rfl⟩, h2⟩
  · rw [if_neg g]
    exact (iFof_code s 1 p ps n c k f es xs w hm hn hr hk hx hrx (by unfold rotCode; rw [if_neg g]) rfl).mono fun _ _ ⟨h1, h2⟩ => ⟨none, 0, h1, ⟨rfl, .inl rfl⟩, h2⟩

end Go.Proofs.Ytnimlipogphhmaa
