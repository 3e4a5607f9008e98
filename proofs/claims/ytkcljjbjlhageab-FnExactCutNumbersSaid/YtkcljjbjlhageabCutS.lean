/- CutNumbers in the model. -/
import Derived.Test.YtkcljjbjlhageabCodeA
import Derived.Test.YtkcljjbjlhageabCutA
namespace Go.Proofs.Ytkcljjbjlhageab
open Go.RowKit

theorem infoBl : (Try.prog.info? 4).map (fun i => (i.zero, i.size, i.bytes)) = some (some (.bool false), 1, 1) := by kernel_rfl

set_option maxRecDepth 100000 in
set_option maxHeartbeats 4000000 in
theorem sCut_code (s q0 : Int) (p pc ps : Option Addr) (n c m d k f : Nat) (es : List (Int × Int)) (cs : List Int) (w : World) (hn : es.length = n) (hm : n ≤ 9223372036854775807) (hr : SeesE w p es) (hl : cs.length = m) (hm2 : m ≤ 1048576) (hrc : SeesI w pc cs) (hq : colsCode s es 1 (fun _ => cs) = q0) (hne : (q0 != 0) = true) :
    Calls Try.prog 45 #[.agg #[.int .i64 s, .slice p n c], .slice pc m d, .slice ps k f] w fun e' w' => e' = .returned (.tuple #[.slice none 0 0, .int .i64 q0]) ∧ Below w.heap.size w w' := by
  have Hn := hid hn
  have Hr := hid hr
  have Hl := hid hl
  have Hm2 := hid hm2
  have Hrc := hid hrc
  have HQ := hid hq
  clear hn hr hl hm2 hrc hq
  go_enter Try.func45, Try.ntmps45
  go_wp2_with fail
  refine (sCode_any _ _ _ _ _ _ _ _ es _ _ _ _ _ Hn.out hm ((Hr.out.on (on_alloc _ _)).on (on_alloc _ _)) (by omega) (rows_one (by simp) Hl.out Hm2.out (Hrc.out.on (on_alloc _ _)))).mono ?_
  rw [HQ.out]
  rintro e w2 ⟨rfl, hb2⟩
  have hB2 := bfrom (w := w) (by go_grown) hb2
  go_wp2
  go_ret2
  exact ⟨rfl, hB2⟩

set_option maxRecDepth 100000 in
set_option maxHeartbeats 8000000 in
theorem sCut_loop (s : Int) (b off n c cb co d k f : Nat) (ps : Option Addr) (es : List (Int × Int)) (cs xs : List Int) (w : World) (hn : es.length = n) (hr : ReadsE w b off es) (hl : cs.length = n) (hrc : ReadsI w cb co cs) (hx : xs.length = k) (hk9 : k ≤ 1048576) (hrx : SeesI w ps xs) (g : IsG s es) (gc : isColP es cs) :
    Calls Try.prog 45 #[.agg #[.int .i64 s, .slice (some ⟨b, off, none⟩) n c], .slice (some ⟨cb, co, none⟩) n d, .slice ps k f] w fun e' w' => ∃ q cap, e' = .returned (.tuple #[.slice q (if isSetP s xs then (cutL es cs xs n, (0 : Int)) else ([], 2)).1.length cap, .int .i64 (if isSetP s xs then (cutL es cs xs n, (0 : Int)) else ([], 2)).2]) ∧ FreshI w.heap.size w' q (if isSetP s xs then (cutL es cs xs n, (0 : Int)) else ([], 2)).1.length cap (if isSetP s xs then (cutL es cs xs n, (0 : Int)) else ([], 2)).1 ∧ Below w.heap.size w w' := by
  have Hn := hid hn
  have Hr := hid hr
  have Hl := hid hl
  have Hrc := hid hrc
  have Hx := hid hx
  have Hrx := hid hrx
  have G := hid g
  have Gc := hid gc
  have hn30 : n ≤ 30 := by have := isG_len g; omega
  have hk99 : k ≤ 9223372036854775807 := by omega
  obtain ⟨N, hN⟩ : ∃ N : Nat, s = N := ⟨_, (Int.toNat_of_nonneg (by have := g.1.1.1; omega)).symm⟩
  have hN2 : 2 ≤ N ∧ N ≤ 20 := by have := g.1.1.1; have := g.1.1.2.1; omega
  obtain ⟨hN3, hN4⟩ := hN2
  subst hN
  have hq : colsCode N es 1 (fun _ => cs) = 0 := by unfold colsCode; rw [if_pos g, if_pos (fun _ _ => gc)]
  have HQ := hid hq
  obtain ⟨L, cd, hLR⟩ : ∃ L cd, (if isSetP N xs then (cutL es cs xs n, (0 : Int)) else ([], 2)) = (L, cd) := ⟨_, _, rfl⟩
  rw [hLR]
  dsimp only
  have HLR := hid hLR
  obtain ⟨i0, hi, hz0, hz1, hz2⟩ := info_parts infoBl
  obtain ⟨j0, hj, hy0, hy1, hy2⟩ := info_parts infoInt
  have Hi := hid hi
  have Hj := hid hj
  clear hn hr hl hrc hx hrx g gc hq hLR hi hj
  go_enter Try.func45, Try.ntmps45
  go_wp2_with fail
  refine (sCode_any _ _ _ _ _ _ _ _ es _ _ _ _ _ Hn.out (by omega) (((SeesE.on (.inr ⟨b, off, rfl, Hr.out⟩) (on_alloc _ _))).on (on_alloc _ _)) (by omega) (rows_one (by simp) Hl.out (by omega) (SeesI.on (.inr ⟨cb, co, rfl, Hrc.out⟩) (on_alloc _ _)))).mono ?_
  rw [HQ.out]
  rintro e w2 ⟨rfl, hb2⟩
  have hB2 := bfrom (w := w) (bfrom (on_alloc _ _) (on_alloc _ _)) hb2
  have hX2 : Box w2 w.heap.size N (some ⟨b, off, none⟩) n c := ((Box.new w (N : Int) (some ⟨b, off, none⟩) n c 31).on (on_alloc _ _)).on hb2
  have hx2 := hX2.1
  have hz2' := hX2.lt
  have HB2 := hid hB2
  have HX2 := hid hX2
  clear hb2 hB2 hX2
  go_wp2_with (at_make; refine wpList_make_full _ rfl _ _ 74 rfl w2.heap.size 4 i0 (.bool false) 1 Try.underlying74 Hi.out hz0 hz1 _ _ _ _ N rfl rfl rfl rfl (by rw [hz2]; omega) (by unfold maxLen; omega) (Nat.le_refl _) ?_; intro w3 hown hgrow)
  have Ho := hid (OwnB.made hown)
  have Hb3 := hid ((Below.refl w2.heap.size w2).grown hgrow (Nat.le_refl _) (fun k e => by cases e))
  clear hown hgrow
  go_loopw [10] (fun i wr => ∃ (i' : Nat) (ms : List Bool), i' ≤ k ∧ i = .int .i64 i' ∧ Hid (ms.length = N ∧ (∀ v, v < N → eL ms v = decide ((v : Int) ∈ xs.take i')) ∧ OwnB wr w2.heap.size N ms) ∧ Hid (∀ j, j < i' → okSet N xs j) ∧ Hid (Below w2.heap.size w2 wr)) (fun i _ => k - (intOf i).toNat)
  case atStart => exact ⟨0, _, Nat.zero_le _, rfl, hid ⟨List.length_replicate, fun v hv => by rw [eL_lt (by simpa using hv)]; simp, Ho.out⟩, hid (fun i hi => by omega), Hb3⟩
  case round =>
    obtain ⟨i, ms, hi, rfl, hC, hD, hB⟩ := hrel
    clear Ho Hb3 hx2
    have HXr := hid (HX2.out.on hB.out)
    have hxr := HXr.out.1
    have hyr := HXr.out.2
    have hzr := HXr.out.lt
    by_cases hlt : i < k
    · obtain ⟨sb, so, rfl, hrd⟩ : ∃ sb so, ps = some ⟨sb, so, none⟩ ∧ ReadsI w sb so xs := by
        rcases Hrx.out with h | h
        · have := Hx.out; rw [h] at this; simp at this; omega
        · exact h
      have HRD := hid ((hrd.on HB2.out).on hB.out)
      have hsb := HRD.out.lt (by have := Hx.out; omega)
      have hc1 := HRD.out i (by have := Hx.out; omega)
      obtain ⟨x, hx⟩ : ∃ x, eI xs i = x := ⟨_, rfl⟩
      rw [hx] at hc1
      have HX := hid hx
      clear hx hrd
      obtain ⟨wo, rfl⟩ : ∃ wo : World, wo = wr := ⟨_, rfl⟩
      by_cases g1 : 0 ≤ x ∧ x ≤ (N : Int) - 1
      · obtain ⟨X, rfl⟩ : ∃ X : Nat, x = X := ⟨_, (Int.toNat_of_nonneg g1.1).symm⟩
        have hXm : X < N := by omega
        have G1 := hid g1
        have hXm' : (X : Int) < (N : Int) := by omega
        clear g1
        have key : ∀ (hok : okSet N xs i), True := fun _ => trivial
        by_cases i1 : i = 0
        · subst i1
          rw [Nat.add_zero] at hc1
          have hcm := hC.out.2.2.cell (i := X) (by have := hC.out.1; omega)
          have hfm := hC.out.2.2.free X
          have hgz := hC.out.2.2.lt
          go_wp2
          go_quiet ((go_at_call 80; exact quiet_same (sIn_yes _ _ _ _ G1.out)))
          go_wp2
          go_roundw
          case rel =>
            refine ⟨1, ms.set X true, by omega, rfl, hid ⟨by rw [List.length_set]; exact hC.out.1, met_step (k := 0) (by have := Hx.out; omega) hC.out.1 HX.out hXm hC.out.2.1, OwnB.set (OwnB.keep (w' := World.drewN wo _) hC.out.2.2 rfl) (by have := hC.out.1; omega) _⟩, hid (fun j hj => ?_), hid ((bdn.mpr hB.out).setCell (p := ⟨w2.heap.size, X, none⟩) (Nat.le_refl _) _)⟩
            obtain rfl : j = 0 := by omega
            exact ⟨by rw [HX.out]; have := G1.out; omega, fun h => by omega⟩
          case measure => simp [intOf]; omega
        · obtain ⟨j, rfl⟩ : ∃ j, i = j + 1 := ⟨i - 1, by omega⟩
          have hc3 := HRD.out j (by have := Hx.out; omega)
          obtain ⟨y, hy⟩ : ∃ y, eI xs j = y := ⟨_, rfl⟩
          rw [hy] at hc3
          have HY := hid hy
          have hpos : decide ((0 : Int) < (j : Int) + 1) = true := by simp
          have e1 : (0 : Int) ≤ (j : Int) + 1 := by omega
          have e2 : (j : Int) + 1 < (k : Int) := by omega
          have e3 : ((j : Int) + 1).toNat = j + 1 := by omega
          have e4 : j < k := by omega
          have e5 : IntKind.i64.wrap (j : Int) = (j : Int) := IntWalk.i64_in _ (by omega)
          clear i1 hy
          have hcm := hC.out.2.2.cell (i := X) (by have := hC.out.1; omega)
          have hfm := hC.out.2.2.free X
          have hgz := hC.out.2.2.lt
          by_cases g2 : (X : Int) ≤ y
          · have g2' : decide ((X : Int) ≤ y) = true := by simpa using g2
            have G2 := hid g2
            clear g2
            go_wp2
            go_quiet ((go_at_call 80; exact quiet_same (sIn_yes _ _ _ _ G1.out)))
            go_wp2
            go_ret2
            rw [if_neg (fun h => by have h1 := (h (j + 1) (by have := Hx.out; omega)).2 (by omega); rw [HX.out, Nat.add_sub_cancel, HY.out] at h1; have := G2.out; omega)] at HLR
            have h := HLR.out
            injection h with ha hb
            subst ha hb
            exact ⟨none, 0, rfl, FreshI.nil _ _, by simp only [bdn]; exact bfrom HB2.out hB.out⟩
          · have g2' : decide ((X : Int) ≤ y) = false := by simpa using g2
            have G2 := hid g2
            clear g2
            go_wp2
            go_quiet ((go_at_call 80; exact quiet_same (sIn_yes _ _ _ _ G1.out)))
            go_wp2
            go_roundw
            case rel =>
              refine ⟨j + 1 + 1, ms.set X true, by omega, by go_num, hid ⟨by rw [List.length_set]; exact hC.out.1, met_step (by have := Hx.out; omega) hC.out.1 HX.out hXm hC.out.2.1, OwnB.set (OwnB.keep (w' := World.drewN wo _) hC.out.2.2 rfl) (by have := hC.out.1; omega) _⟩, hid (fun j' hj => ?_), hid ((bdn.mpr hB.out).setCell (p := ⟨w2.heap.size, X, none⟩) (Nat.le_refl _) _)⟩
              rcases Nat.lt_or_ge j' (j + 1) with h | h
              · exact hD.out j' h
              · obtain rfl : j' = j + 1 := by omega
                exact ⟨by rw [HX.out]; have := G1.out; omega, fun _ => by rw [HX.out, Nat.add_sub_cancel, HY.out]; have := G2.out; omega⟩
            case measure => simp [intOf]; omega
      · have g1' : x < 0 ∨ (N : Int) - 1 < x := by omega
        have G1 := hid g1'
        clear g1 g1'
        go_wp2
        go_quiet ((go_at_call 80; exact quiet_same (sIn_no _ _ _ _ G1.out)))
        go_wp2
        go_ret2
        rw [if_neg (fun h => by have h1 := (h i (by have := Hx.out; omega)).1; rw [HX.out] at h1; have := G1.out; omega)] at HLR
        have h := HLR.out
        injection h with ha hb
        subst ha hb
        exact ⟨none, 0, rfl, FreshI.nil _ _, by simp only [bdn]; exact bfrom HB2.out hB.out⟩
    · obtain rfl : i = k := by omega
      rw [if_pos (show isSetP N xs from fun j hj => hD.out j (by have := Hx.out; omega))] at HLR
      have hms : Hid (∀ v, v < N → eL ms v = decide ((v : Int) ∈ xs)) := hid (fun v hv => by have h := hC.out.2.1 v hv; rw [List.take_of_length_le (by have := Hx.out; omega)] at h; exact h)
      obtain ⟨wk, rfl⟩ : ∃ wk : World, wk = wr := ⟨_, rfl⟩
      go_wp2_with (at_make; refine wpList_make_full _ rfl _ _ 25 rfl wk.heap.size 2 j0 (.int .i64 0) 1 Try.underlying25 Hj.out hy0 hy1 _ _ _ _ 3 rfl rfl rfl rfl (by rw [hy2]; omega) (by unfold maxLen; omega) (Nat.le_refl _) ?_; intro w4 hown hgrow)
      have Ho4 := hid (OwnI.made hown)
      have Hb4 := hid ((Below.refl wk.heap.size wk).grown hgrow (Nat.le_refl _) (fun k e => by cases e))
      clear hown hgrow
      go_loopw [12] (fun ee wr => ∃ e : Nat, e ≤ n ∧ ee = .int .i64 e ∧ Hid (OwnI wr wk.heap.size 3 (cutL es cs xs e)) ∧ Hid (Below wk.heap.size wk wr)) (fun ee _ => n - (intOf ee).toNat)
      case atStart => exact ⟨0, by omega, rfl, hid Ho4.out, Hb4⟩
      case round =>
        obtain ⟨e, he, rfl, hO, hBe⟩ := hrel
        by_cases hle : e < n
        · have HBw := hid (bfrom (bfrom HB2.out hB.out) hBe.out)
          have HXe := hid ((HX2.out.on hB.out).on hBe.out)
          have hxe := HXe.out.1
          have hye := HXe.out.2
          have hze := HXe.out.lt
          have HM := hid (hC.out.2.2.on hBe.out)
          have hmz := HM.out.lt
          have hbb : b < w.heap.size := reads_lt Hr.out (by have := Hn.out; omega)
          have hbe : b < wr.heap.size := by have := HBw.out.size; omega
          have hc1 := (Hr.out.on HBw.out e (by have := Hn.out; omega)).1
          have hc2 := (Hr.out.on HBw.out e (by have := Hn.out; omega)).2
          have hcc := Hrc.out.on HBw.out e (by have := Hl.out; omega)
          have hcb : cb < wr.heap.size := (Hrc.out.on HBw.out).lt (by have := Hl.out; omega)
          have hok := G.out.1.2 e (by have := Hn.out; omega)
          obtain ⟨X, hX1⟩ : ∃ X : Nat, eA es e = X := ⟨_, (Int.toNat_of_nonneg hok.1).symm⟩
          obtain ⟨Y, hY1⟩ : ∃ Y : Nat, eB es e = Y := ⟨_, (Int.toNat_of_nonneg hok.2.2.1).symm⟩
          have hXN : X < N := by have := hok.2.1; omega
          have hYN : Y < N := by have := hok.2.2.2.1; omega
          have hXN' : (X : Int) < (N : Int) := by omega
          have hYN' : (Y : Int) < (N : Int) := by omega
          have gco := (Gc.out.2 e (by have := Hn.out; omega)).1
          obtain ⟨C, hC1⟩ : ∃ C : Nat, eI cs e = C := ⟨_, (Int.toNat_of_nonneg gco.1).symm⟩
          have hC3 : C < 3 := by omega
          have hC3' : (C : Int) < 3 := by omega
          rw [hX1] at hc1
          rw [hY1] at hc2
          rw [hC1] at hcc
          have hm1 := HM.out.cell (i := X) (by have := hC.out.1; omega)
          have hm2 := HM.out.cell (i := Y) (by have := hC.out.1; omega)
          have hx1 := hms.out X hXN
          have hx2 := hms.out Y hYN
          obtain ⟨p1, hp1⟩ : ∃ p1, eL ms X = p1 := ⟨_, rfl⟩
          obtain ⟨p2, hp2⟩ : ∃ p2, eL ms Y = p2 := ⟨_, rfl⟩
          rw [hp1] at hm1 hx1
          rw [hp2] at hm2 hx2
          have hcut : (decide (eA es e ∈ xs) != decide (eB es e ∈ xs)) = (p1 != p2) := by rw [hX1, hY1, ← hx1, ← hx2]
          have HCut := hid hcut
          have HC1 := hid hC1
          clear hX1 hY1 hok gco hp1 hp2 hx1 hx2 hcut hC1
          rcases p1 with _ | _ <;> rcases p2 with _ | _
          · go_wp2
            go_quiet (fail)
            go_wp2
            go_roundw
            case rel => exact ⟨e + 1, by omega, by go_num, hid (by rw [cutL_no (by rw [HCut.out]; rfl)]; exact hO.out.keep rfl), hid (bdn.mpr hBe.out)⟩
            case measure => simp [intOf]; omega
          · have hco := hO.out.reads C (by rw [cutL_length]; exact hC3)
            have hcf := hO.out.free C
            have hoz := hO.out.lt
            rw [Nat.zero_add] at hco
            have hcl := cutN_le es cs xs C e
            rw [← cutL_at (es := es) (c := cs) (xs := xs) hC3] at hcl
            obtain ⟨z, hz⟩ : ∃ z, eI (cutL es cs xs e) C = z := ⟨_, rfl⟩
            rw [hz] at hco hcl
            have HZ := hid hz
            obtain ⟨z1, z2⟩ := hcl
            have z3 : z ≤ 30 := by omega
            clear hz
            go_wp2
            go_quiet (fail)
            go_wp2
            go_roundw
            case rel =>
              refine ⟨e + 1, by omega, by go_num, hid ?_, hid ((bdn.mpr hBe.out).setCell (p := ⟨wk.heap.size, C, none⟩) (Nat.le_refl _) _)⟩
              rw [cutL_yes (by rw [HCut.out]; rfl) hC3 HC1.out, HZ.out]
              exact OwnI.set (OwnI.keep (w' := World.drewN wr _) hO.out rfl) (by rw [cutL_length]; exact hC3) _
            case measure => simp [intOf]; omega
          · have hco := hO.out.reads C (by rw [cutL_length]; exact hC3)
            have hcf := hO.out.free C
            have hoz := hO.out.lt
            rw [Nat.zero_add] at hco
            have hcl := cutN_le es cs xs C e
            rw [← cutL_at (es := es) (c := cs) (xs := xs) hC3] at hcl
            obtain ⟨z, hz⟩ : ∃ z, eI (cutL es cs xs e) C = z := ⟨_, rfl⟩
            rw [hz] at hco hcl
            have HZ := hid hz
            obtain ⟨z1, z2⟩ := hcl
            have z3 : z ≤ 30 := by omega
            clear hz
            go_wp2
            go_quiet (fail)
            go_wp2
            go_roundw
            case rel =>
              refine ⟨e + 1, by omega, by go_num, hid ?_, hid ((bdn.mpr hBe.out).setCell (p := ⟨wk.heap.size, C, none⟩) (Nat.le_refl _) _)⟩
              rw [cutL_yes (by rw [HCut.out]; rfl) hC3 HC1.out, HZ.out]
              exact OwnI.set (OwnI.keep (w' := World.drewN wr _) hO.out rfl) (by rw [cutL_length]; exact hC3) _
            case measure => simp [intOf]; omega
          · go_wp2
            go_quiet (fail)
            go_wp2
            go_roundw
            case rel => exact ⟨e + 1, by omega, by go_num, hid (by rw [cutL_no (by rw [HCut.out]; rfl)]; exact hO.out.keep rfl), hid (bdn.mpr hBe.out)⟩
            case measure => simp [intOf]; omega
        · obtain rfl : e = n := by omega
          go_wp2
          go_ret2
          have h := HLR.out
          injection h with ha hb
          subst ha hb
          exact ⟨_, _, rfl, FreshI.less (FreshI.of_own hO.out (cutL_length _ _ _ _) (Nat.le_refl _)) (by have := (bfrom HB2.out hB.out).size; omega), bfrom (bfrom HB2.out hB.out) hBe.out⟩

theorem cols_sees {s : Int} {es : List (Int × Int)} {cs : List Int} {q : Option Addr} {w : World} (g : IsG s es) (gc : isColP es cs) (hr : SeesI w q cs) : ∃ b o, q = some ⟨b, o, none⟩ ∧ ReadsI w b o cs := by
  rcases hr with rfl | h2
  · exact absurd g.1.1.2.2.2 (by have := g.1.1.1; have := gc.1; simp at this; omega)
  · exact h2

theorem sCutNumbers_any (s : Int) (p : Option Addr) (n c : Nat) (es : List (Int × Int)) (pc : Option Addr) (m d : Nat) (cs : List Int) (ps : Option Addr) (k f : Nat) (xs : List Int) (w : World) (hm : n ≤ 1048576) (hn : es.length = n) (hr : SeesE w p es) (hm2 : m ≤ 1048576) (hl : cs.length = m) (hrc : SeesI w pc cs) (hk : k ≤ 1048576) (hx : xs.length = k) (hrx : SeesI w ps xs) :
    Calls Try.prog 45 #[.agg #[.int .i64 s, .slice p n c], .slice pc m d, .slice ps k f] w fun e' w' => ∃ q cap, e' = .returned (.tuple #[.slice q (fCutNumbers s es cs xs).1.length cap, .int .i64 (fCutNumbers s es cs xs).2]) ∧ FreshI w.heap.size w' q (fCutNumbers s es cs xs).1.length cap (fCutNumbers s es cs xs).1 ∧ Below w.heap.size w w' := by
  unfold fCutNumbers
  by_cases g : IsG s es
  · rw [if_pos g]
    by_cases gc : isColP es cs
    · rw [if_pos gc]
      obtain ⟨b, off, rfl, rd⟩ := isG_sees g hr
      obtain ⟨cb, co, rfl, rc⟩ := cols_sees g gc hrc
      obtain rfl : m = n := by rw [← hl, ← hn]; exact gc.1
      rw [hn]
      exact sCut_loop s b off m c cb co d k f ps es cs xs w hn rd hl rc hx hk hrx g gc
    · rw [if_neg gc]
      exact (sCut_code s 2 p pc ps n c m d k f es cs w hn (by omega) hr hl hm2 hrc (by unfold colsCode; rw [if_pos g, if_neg (fun h => gc (h 0 (by omega)))]) rfl).mono fun e w' ⟨he, hb⟩ => ⟨none, 0, he, FreshI.nil _ _, hb⟩
  · rw [if_neg g]
    exact (sCut_code s 1 p pc ps n c m d k f es cs w hn (by omega) hr hl hm2 hrc (by unfold colsCode; rw [if_neg g]) rfl).mono fun e w' ⟨he, hb⟩ => ⟨none, 0, he, FreshI.nil _ _, hb⟩

end Go.Proofs.Ytkcljjbjlhageab
