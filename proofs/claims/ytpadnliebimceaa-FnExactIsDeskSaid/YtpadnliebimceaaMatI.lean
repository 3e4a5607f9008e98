/- Matchings in the program: the marks of met vertices, and whether a list is a matching. -/
import Derived.Test.YtpadnliebimceaaSetI
import Derived.Test.YtpadnliebimceaaMatA
import Derived.Test.YtpadnliebimceaaMetV
import Derived.Test.YtpadnliebimceaaOwnMore
import Derived.Deep.RegionHeld3
import Derived.StillTailTactics
import Derived.BigQuiet
import Derived.BigRegion
namespace Go.Proofs.Ytpadnliebimceaa
open Go.RowKit

set_option maxRecDepth 100000 in
set_option maxHeartbeats 4000000 in
theorem iMatIs_len (N : Nat) (p ps : Option Addr) (n c k f : Nat) (w : World) (hk9 : k ≤ 1048576) (hN : N ≤ 20) (h : ¬ (k : Int) = (N : Int) / 2) :
    Calls Try.prog 46 #[.agg #[.int .i64 N, .slice p n c], .slice ps k f] w fun e' w' => e' = .returned (.bool false) ∧ Below w.heap.size w w' := by
  have h1 : ((k : Int) != (N : Int) / 2) = true := by simpa using h
  have hk99 : k ≤ 9223372036854775807 := by omega
  clear h
  go_enter Try.func46, Try.ntmps46
  go_wp2
  go_ret
  exact ⟨rfl, by go_grown⟩

set_option maxRecDepth 100000 in
set_option maxHeartbeats 4000000 in
theorem iMatIs_set (N : Nat) (p ps : Option Addr) (n c k f : Nat) (xs : List Int) (w : World) (hk9 : k ≤ 1048576) (hN : N ≤ 20) (hx : xs.length = k) (hrx : SeesI w ps xs) (h : (k : Int) = (N : Int) / 2) (hs : ¬ isSetP n xs) :
    Calls Try.prog 46 #[.agg #[.int .i64 N, .slice p n c], .slice ps k f] w fun e' w' => e' = .returned (.bool false) ∧ Below w.heap.size w w' := by
  have h1 : ((k : Int) != (N : Int) / 2) = false := by simpa using h
  have hk99 : k ≤ 9223372036854775807 := by omega
  have Hx := hid hx
  have Hrx := hid hrx
  have Hs := hid hs
  clear h hx hrx hs
  go_enter Try.func46, Try.ntmps46
  go_wp2_with fail
  refine (iSet_any ps k f n xs _ Hx.out hk9 (Hrx.out.on (on_alloc _ _))).mono ?_
  rw [decide_eq_false Hs.out]
  rintro e w2 ⟨rfl, rfl⟩
  go_wp2
  go_ret
  exact ⟨rfl, by go_grown⟩

set_option maxRecDepth 100000 in
set_option maxHeartbeats 8000000 in
theorem iMatIs_loop (N : Nat) (b off n c k f : Nat) (ps : Option Addr) (es : List (Int × Int)) (xs : List Int) (w : World) (hn : es.length = n) (hr : ReadsE w b off es) (hx : xs.length = k) (hk9 : k ≤ 1048576) (hrx : SeesI w ps xs) (g : IsG N es) (h : (k : Int) = (N : Int) / 2) (hs : isSetP n xs) :
    Calls Try.prog 46 #[.agg #[.int .i64 N, .slice (some ⟨b, off, none⟩) n c], .slice ps k f] w fun e' w' => e' = .returned (.bool (decide (isMatP N es xs))) ∧ Below w.heap.size w w' := by
  have h1 : ((k : Int) != (N : Int) / 2) = false := by simpa using h
  have hk99 : k ≤ 9223372036854775807 := by omega
  have Hn := hid hn
  have Hr := hid hr
  have Hx := hid hx
  have Hrx := hid hrx
  have Hs := hid hs
  have G := hid g
  have hn30 : n ≤ 30 := by have := isG_len g; omega
  have hN4 : N ≤ 20 := by have := g.1.1.2.1; omega
  have HK := hid (show 2 * (k : Int) = N by have := g.1.1.2.2.1; have := g.1.1.2.2.2; omega)
  obtain ⟨r, hR⟩ : ∃ r : Bool, r = decide (isMatP N es xs) := ⟨_, rfl⟩
  rw [← hR]
  have HR := hid hR
  clear h hn hr hx hrx hs g hR
  go_enter Try.func46, Try.ntmps46
  go_wp2_with fail
  refine (iSet_any ps k f n xs _ Hx.out hk9 (Hrx.out.on (on_alloc _ _))).mono ?_
  rw [decide_eq_true Hs.out]
  rintro e w2 ⟨rfl, rfl⟩
  go_wp2
  go_loopw [25] (fun ee wr => ∃ i : Nat, i ≤ k ∧ ee = .int .i64 i ∧ Hid (∀ j, j < i → okMat es xs j) ∧ Hid (Below w.heap.size w wr) ∧ Hid (OwnV wr (w.heap.size + 1) (metL es xs 20 i)) ∧ Hid (Box wr w.heap.size N (some ⟨b, off, none⟩) n c)) (fun ee _ => k - (intOf ee).toNat)
  case atStart =>
    refine ⟨0, by omega, rfl, hid (fun j hj => by omega), hid (bfrom (on_alloc _ _) (on_alloc _ _)), hid ?_, hid ((Box.new w (N : Int) (some ⟨b, off, none⟩) n c 24).on (on_alloc _ _))⟩
    rw [metL_zero]
    exact own_marks _ _ (by simp)
  case round =>
    obtain ⟨i, hi, rfl, hE, hB, hT, hX⟩ := hrel
    by_cases hlt : i < k
    · obtain ⟨sb, so, rfl, hrd⟩ : ∃ sb so, ps = some ⟨sb, so, none⟩ ∧ ReadsI w sb so xs := by
        rcases Hrx.out with h | h
        · have := Hx.out; rw [h] at this; simp at this; omega
        · exact h
      have hci := (hrd.on hB.out) i (by have := Hx.out; omega)
      have hsb := (hrd.on hB.out).lt (by have := Hx.out; omega)
      have hok := (Hs.out i (by have := Hx.out; omega)).1
      obtain ⟨X, hX1⟩ : ∃ X : Nat, eI xs i = X := ⟨_, (Int.toNat_of_nonneg hok.1).symm⟩
      have hXn : X < n := by have := hok.2; omega
      have hXn' : (X : Int) < (n : Int) := by omega
      rw [hX1] at hci
      have HXE := hid (show (eI xs i).toNat = X by rw [hX1, Int.toNat_natCast])
      have hx := hX.out.1
      have hy := hX.out.2
      have hz := hX.out.lt
      have hbb : b < w.heap.size := reads_lt Hr.out (by have := Hn.out; omega)
      have hbr : b < wr.heap.size := by have := hB.out.size; omega
      have hc1 := (Hr.out.on hB.out X (by have := Hn.out; omega)).1
      have hc2 := (Hr.out.on hB.out X (by have := Hn.out; omega)).2
      have hokE := G.out.1.2 X (by have := Hn.out; omega)
      obtain ⟨V, hV⟩ : ∃ V : Nat, eA es X = V := ⟨_, (Int.toNat_of_nonneg hokE.1).symm⟩
      obtain ⟨W, hW⟩ : ∃ W : Nat, eB es X = W := ⟨_, (Int.toNat_of_nonneg hokE.2.2.1).symm⟩
      have hV2 : V < 20 := by have := hokE.2.1; omega
      have hW2 : W < 20 := by have := hokE.2.2.2.1; omega
      have hV2' : (V : Int) < 20 := by omega
      have hW2' : (W : Int) < 20 := by omega
      have hVW : ¬ V = W := fun e => hokE.2.2.2.2 (by rw [hV, hW, e])
      rw [hV] at hc1
      rw [hW] at hc2
      have HV := hid hV
      have HW := hid hW
      have hm1 := hT.out.cell hV2
      have hm2 := hT.out.cell hW2
      rw [metL_at hV2] at hm1
      rw [metL_at hW2] at hm2
      have hTl := hT.out.lt
      obtain ⟨m1, hm1e⟩ : ∃ m, metV es xs i V = m := ⟨_, rfl⟩
      obtain ⟨m2, hm2e⟩ : ∃ m, metV es xs i W = m := ⟨_, rfl⟩
      rw [hm1e] at hm1
      rw [hm2e] at hm2
      have HM1 := hid hm1e
      have HM2 := hid hm2e
      clear hok hX1 hokE hV hW hm1e hm2e hrd
      obtain ⟨wo, rfl⟩ : ∃ wo : World, wo = wr := ⟨_, rfl⟩
      cases m1
      · cases m2
        · go_wp2_with fail
          refine (iAdd_any _ V W (metL es xs 20 i) _ hV2 hW2 hVW (hT.out.on (on_alloc _ _))).mono ?_
          rw [metL_step (by rw [HXE.out]; exact HV.out) (by rw [HXE.out]; exact HW.out) hV2 hW2]
          rintro e' w3 ⟨rfl, ho3, hg3⟩
          go_wp2
          go_roundw
          case rel =>
            refine ⟨i + 1, by omega, by go_num, hid (fun j hj => ?_), hid ((bfrom hB.out (on_alloc _ _)).grown hg3 (by have := hB.out.size; simp; omega) (fun k' hk' => by have := Option.some.inj hk'; omega)), hid ho3, hid ((hX.out.on (on_alloc _ _)).kept hg3 (fun e => by have := Option.some.inj e; omega))⟩
            rcases Nat.lt_or_ge j i with h | h
            · exact hE.out j h
            · have ej : j = i := by omega
              rw [ej]
              exact ⟨by rw [HXE.out, HV.out]; exact HM1.out, by rw [HXE.out, HW.out]; exact HM2.out⟩
          case measure => simp [intOf]; omega
        · go_wp2
          go_ret
          refine ⟨?_, bfrom hB.out (on_alloc _ _)⟩
          rw [HR.out, decide_eq_false (fun h => okMat_not (k := 1) (by omega) (by rw [HXE.out]; show metV es xs i (eB es X) = true; rw [HW.out]; exact HM2.out) (h.2.2 i (by have := Hx.out; omega)))]
          rfl
      · go_wp2
        go_ret
        refine ⟨?_, bfrom hB.out (on_alloc _ _)⟩
        rw [HR.out, decide_eq_false (fun h => okMat_not (k := 0) (by omega) (by rw [HXE.out]; show metV es xs i (eA es X) = true; rw [HV.out]; exact HM1.out) (h.2.2 i (by have := Hx.out; omega)))]
        rfl
    · obtain rfl : i = k := by omega
      go_wp2
      go_ret
      refine ⟨?_, hB.out⟩
      rw [HR.out, decide_eq_true (show isMatP N es xs from ⟨by rw [Hx.out]; exact HK.out, by rw [Hn.out]; exact Hs.out, fun j hj => hE.out j (by have := Hx.out; omega)⟩)]
      rfl

theorem iMatIs_any (s : Int) (p ps : Option Addr) (n c k f : Nat) (es : List (Int × Int)) (xs : List Int) (w : World) (g : IsG s es) (hn : es.length = n) (hr : SeesE w p es) (hk9 : k ≤ 1048576) (hx : xs.length = k) (hrx : SeesI w ps xs) :
    Calls Try.prog 46 #[.agg #[.int .i64 s, .slice p n c], .slice ps k f] w fun e' w' => e' = .returned (.bool (decide (isMatP s es xs))) ∧ Below w.heap.size w w' := by
  obtain ⟨N, rfl⟩ : ∃ N : Nat, s = N := ⟨_, (Int.toNat_of_nonneg (by have := g.1.1.1; omega)).symm⟩
  obtain ⟨b, off, rfl, rd⟩ := isG_sees g hr
  have hN4 : N ≤ 20 := by have := g.1.1.2.1; omega
  have hn30 : n ≤ 30 := by have := isG_len g; omega
  by_cases h : (k : Int) = (N : Int) / 2
  · by_cases hs : isSetP n xs
    · exact iMatIs_loop N b off n c k f ps es xs w hn rd hx hk9 hrx g h hs
    · refine (iMatIs_set N _ ps n c k f xs w hk9 hN4 hx hrx h hs).mono fun e w' ⟨he, hb⟩ => ⟨?_, hb⟩
      rw [he, decide_eq_false (fun hm => hs (by rw [← hn]; exact hm.2.1))]
  · refine (iMatIs_len N _ ps n c k f w hk9 hN4 h).mono fun e w' ⟨he, hb⟩ => ⟨?_, hb⟩
    rw [he, decide_eq_false (fun hm => h (by have := hm.1; omega))]

end Go.Proofs.Ytpadnliebimceaa
