/- CutNumbers in the program, walked. -/
import Derived.Test.YtkcljjbjlhageabCutI
namespace Go.Proofs.Ytkcljjbjlhageab
open Go.RowKit

theorem SeesI.drewN {w : World} {q : Option Addr} {xs : List Int} (h : SeesI w q xs) (n : Nat) : SeesI (w.drewN n) q xs := h.on (bdn.mpr (Below.refl _ _))

set_option maxRecDepth 100000 in
set_option maxHeartbeats 4000000 in
theorem iCut_code (s q0 : Int) (p pc ps : Option Addr) (n c m d k f : Nat) (es : List (Int × Int)) (cs : List Int) (w : World) (hn : es.length = n) (hm : n ≤ 1048576) (hr : SeesE w p es) (hl : cs.length = m) (hm2 : m ≤ 1048576) (hrc : SeesI w pc cs) (hq : colsCode s es 1 (fun _ => cs) = q0) (hne : (q0 != 0) = true) :
    Calls Try.prog 46 #[.agg #[.int .i64 s, .slice p n c], .slice pc m d, .slice ps k f] w fun e' w' => e' = .returned (.tuple #[.slice none 0 0, .int .i64 q0]) ∧ Below w.heap.size w w' := by
  have Hn := hid hn
  have Hr := hid hr
  have Hl := hid hl
  have Hm2 := hid hm2
  have Hrc := hid hrc
  have HQ := hid hq
  clear hn hr hl hm2 hrc hq
  go_enter Try.func46, Try.ntmps46
  go_wp2_with fail
  refine (iCode_any _ _ _ _ _ _ _ _ es _ _ _ _ _ Hn.out hm ((Hr.out.on (on_alloc _ _)).on (on_alloc _ _)) (by omega) (rows_one (by simp) Hl.out Hm2.out (Hrc.out.on (on_alloc _ _)))).mono ?_
  rw [HQ.out]
  rintro e w2 ⟨rfl, hb2⟩
  have hB2 := bfrom (w := w) (by go_grown) hb2
  go_wp2
  go_ret2
  exact ⟨rfl, hB2⟩

set_option maxRecDepth 100000 in
set_option maxHeartbeats 4000000 in
theorem iCut_set (N : Nat) (b off n c cb co d k f : Nat) (ps : Option Addr) (es : List (Int × Int)) (cs xs : List Int) (w : World) (hn : es.length = n) (hn30 : n ≤ 30) (hr : ReadsE w b off es) (hl : cs.length = n) (hrc : ReadsI w cb co cs) (hx : xs.length = k) (hk9 : k ≤ 1048576) (hrx : SeesI w ps xs) (hq : colsCode N es 1 (fun _ => cs) = 0) (gs : ¬ isSetP N xs) :
    Calls Try.prog 46 #[.agg #[.int .i64 N, .slice (some ⟨b, off, none⟩) n c], .slice (some ⟨cb, co, none⟩) n d, .slice ps k f] w fun e' w' => e' = .returned (.tuple #[.slice none 0 0, .int .i64 2]) ∧ Below w.heap.size w w' := by
  have Hn := hid hn
  have Hr := hid hr
  have Hl := hid hl
  have Hrc := hid hrc
  have Hx := hid hx
  have Hrx := hid hrx
  have HQ := hid hq
  have GS := hid gs
  clear hn hr hl hrc hx hrx hq gs
  go_enter Try.func46, Try.ntmps46
  go_wp2_with fail
  refine (iCode_any _ _ _ _ _ _ _ _ es _ _ _ _ _ Hn.out (by omega) (((SeesE.on (.inr ⟨b, off, rfl, Hr.out⟩) (on_alloc _ _))).on (on_alloc _ _)) (by omega) (rows_one (by simp) Hl.out (by omega) (SeesI.on (.inr ⟨cb, co, rfl, Hrc.out⟩) (on_alloc _ _)))).mono ?_
  rw [HQ.out]
  rintro e w2 ⟨rfl, hb2⟩
  have hB2 := bfrom (w := w) (bfrom (on_alloc _ _) (on_alloc _ _)) hb2
  have hX2 : Box w2 w.heap.size N (some ⟨b, off, none⟩) n c := ((Box.new w (N : Int) (some ⟨b, off, none⟩) n c 31).on (on_alloc _ _)).on hb2
  have hx2 := hX2.1
  have hz2' := hX2.lt
  go_wp2_with fail
  refine (iSet_any _ _ _ _ xs _ Hx.out hk9 (Hrx.out.on hB2)).mono ?_
  rw [decide_eq_false GS.out]
  rintro e w3 ⟨rfl, rfl⟩
  go_wp2
  go_ret2
  exact ⟨rfl, hB2⟩

set_option maxRecDepth 100000 in
set_option maxHeartbeats 8000000 in
theorem iCut_loop (N : Nat) (b off n c cb co d k f : Nat) (ps : Option Addr) (es : List (Int × Int)) (cs xs : List Int) (w : World) (hn : es.length = n) (hr : ReadsE w b off es) (hl : cs.length = n) (hrc : ReadsI w cb co cs) (hx : xs.length = k) (hk9 : k ≤ 1048576) (hrx : SeesI w ps xs) (g : IsG N es) (gc : isColP es cs) (gs : isSetP N xs) :
    Calls Try.prog 46 #[.agg #[.int .i64 N, .slice (some ⟨b, off, none⟩) n c], .slice (some ⟨cb, co, none⟩) n d, .slice ps k f] w fun e' w' => ∃ q cap, e' = .returned (.tuple #[.slice q 3 cap, .int .i64 0]) ∧ FreshI w.heap.size w' q 3 cap (cutL es cs xs n) ∧ Below w.heap.size w w' := by
  have hn30 : n ≤ 30 := by have := isG_len g; omega
  have hq : colsCode N es 1 (fun _ => cs) = 0 := by unfold colsCode; rw [if_pos g, if_pos (fun _ _ => gc)]
  have Hn := hid hn
  have Hr := hid hr
  have Hl := hid hl
  have Hrc := hid hrc
  have Hx := hid hx
  have Hrx := hid hrx
  have HQ := hid hq
  have GS := hid gs
  have G := hid g
  have Gc := hid gc
  obtain ⟨j0, hj, hy0, hy1, hy2⟩ := info_parts infoInt
  have Hj := hid hj
  clear hn hr hl hrc hx hrx hq gs g gc hj
  go_enter Try.func46, Try.ntmps46
  go_wp2_with fail
  refine (iCode_any _ _ _ _ _ _ _ _ es _ _ _ _ _ Hn.out (by omega) (((SeesE.on (.inr ⟨b, off, rfl, Hr.out⟩) (on_alloc _ _))).on (on_alloc _ _)) (by omega) (rows_one (by simp) Hl.out (by omega) (SeesI.on (.inr ⟨cb, co, rfl, Hrc.out⟩) (on_alloc _ _)))).mono ?_
  rw [HQ.out]
  rintro e w2 ⟨rfl, hb2⟩
  have hB2 := bfrom (w := w) (bfrom (on_alloc _ _) (on_alloc _ _)) hb2
  have hX2 : Box w2 w.heap.size N (some ⟨b, off, none⟩) n c := ((Box.new w (N : Int) (some ⟨b, off, none⟩) n c 31).on (on_alloc _ _)).on hb2
  have hx2 := hX2.1
  have hz2' := hX2.lt
  have HB2 := hid hB2
  have HX2 := hid hX2
  clear hb2
  go_wp2_with fail
  refine (iSet_any _ _ _ _ xs _ Hx.out hk9 (Hrx.out.on hB2)).mono ?_
  rw [decide_eq_true GS.out]
  rintro e w3 ⟨rfl, rfl⟩
  go_wp2_with (at_make; refine wpList_make_full _ rfl _ _ 25 rfl w2.heap.size 2 j0 (.int .i64 0) 1 Try.underlying25 Hj.out hy0 hy1 _ _ _ _ 3 rfl rfl rfl rfl (by rw [hy2]; omega) (by unfold maxLen; omega) (Nat.le_refl _) ?_; intro w4 hown hgrow; have hb4 : Below w2.heap.size w2 w4 := (Below.refl w2.heap.size w2).grown hgrow (Nat.le_refl _) (fun k e => by cases e); have hX4 := HX2.out.on hb4; have hx4 := hX4.1; have hy4 := hX4.2; have hz4 := hX4.lt)
  have Ho4 := hid (OwnI.made hown)
  have Hb4 := hid hb4
  clear hown hgrow hb4 hX4 hx2 hz2'
  go_wp2
  go_loopw [28] (fun ee wr => ∃ e : Nat, e ≤ n ∧ ee = .int .i64 e ∧ Hid (OwnI wr w2.heap.size 3 (cutL es cs xs e)) ∧ Hid (Below w2.heap.size w2 wr)) (fun ee _ => n - (intOf ee).toNat)
  case atStart => exact ⟨0, by omega, rfl, hid Ho4.out, Hb4⟩
  case round =>
    obtain ⟨e, he, rfl, hO, hBe⟩ := hrel
    clear hx4 hy4 hz4
    by_cases hle : e < n
    · have HBw := hid (bfrom HB2.out hBe.out)
      have hbb : b < w.heap.size := reads_lt Hr.out (by have := Hn.out; omega)
      have hbe : b < wr.heap.size := by have := HBw.out.size; omega
      have hc1 := (Hr.out.on HBw.out e (by have := Hn.out; omega)).1
      have hc2 := (Hr.out.on HBw.out e (by have := Hn.out; omega)).2
      have hcc := Hrc.out.on HBw.out e (by have := Hl.out; omega)
      have hcb : cb < wr.heap.size := (Hrc.out.on HBw.out).lt (by have := Hl.out; omega)
      have hok := G.out.1.2 e (by have := Hn.out; omega)
      obtain ⟨X, hX1⟩ : ∃ X, eA es e = X := ⟨_, rfl⟩
      obtain ⟨Y, hY1⟩ : ∃ Y, eB es e = Y := ⟨_, rfl⟩
      have gco := (Gc.out.2 e (by have := Hn.out; omega)).1
      obtain ⟨C, hC1⟩ : ∃ C : Nat, eI cs e = C := ⟨_, (Int.toNat_of_nonneg gco.1).symm⟩
      have hC3 : C < 3 := by omega
      have hC3' : (C : Int) < 3 := by omega
      rw [hX1] at hc1
      rw [hY1] at hc2
      rw [hC1] at hcc
      obtain ⟨p1, hp1⟩ : ∃ p1, decide (X ∈ xs) = p1 := ⟨_, rfl⟩
      obtain ⟨p2, hp2⟩ : ∃ p2, decide (Y ∈ xs) = p2 := ⟨_, rfl⟩
      have hcut : (decide (eA es e ∈ xs) != decide (eB es e ∈ xs)) = (p1 != p2) := by rw [hX1, hY1, hp1, hp2]
      have HCut := hid hcut
      have HC1 := hid hC1
      have HP1 := hid hp1
      have HP2 := hid hp2
      have HSx := hid (Hrx.out.on HBw.out)
      have hoz := hO.out.lt
      obtain ⟨wo, rfl⟩ : ∃ wo : World, wo = wr := ⟨_, rfl⟩
      have hct : ∀ (n' : Nat), Calls Try.prog 82 #[.slice ps k f, .int .i64 X] (World.drewN (wo.alloc (.cells #[.int .i64 X, .int .i64 Y] 85)) n') fun e w' => e = .returned (.bool p1) ∧ ∃ m, w' = World.drewN (wo.alloc (.cells #[.int .i64 X, .int .i64 Y] 85)) m := fun n' => by
        have h := quiet_same ((iContains_any ps k f X xs (World.drewN (wo.alloc (.cells #[.int .i64 X, .int .i64 Y] 85)) n') Hx.out hk9 ((HSx.out.alloc _).drewN _)))
        rw [HP1.out] at h
        exact h
      have hcu : ∀ (n' : Nat), Calls Try.prog 82 #[.slice ps k f, .int .i64 Y] (World.drewN (wo.alloc (.cells #[.int .i64 X, .int .i64 Y] 85)) n') fun e w' => e = .returned (.bool p2) ∧ ∃ m, w' = World.drewN (wo.alloc (.cells #[.int .i64 X, .int .i64 Y] 85)) m := fun n' => by
        have h := quiet_same ((iContains_any ps k f Y xs (World.drewN (wo.alloc (.cells #[.int .i64 X, .int .i64 Y] 85)) n') Hx.out hk9 ((HSx.out.alloc _).drewN _)))
        rw [HP2.out] at h
        exact h
      have HCT := hid hct
      have HCU := hid hcu
      clear hX1 hY1 hok gco hp1 hp2 hcut hC1 hct hcu
      rcases p1 with _ | _ <;> rcases p2 with _ | _
      · go_wp2
        go_quiet ((first | (go_at_call_of 82 X; exact HCT.out _) | (go_at_call_of 82 Y; exact HCU.out _)))
        go_wp2
        go_roundw
        case rel => exact ⟨e + 1, by omega, by go_num, hid (by rw [cutL_no (by rw [HCut.out]; rfl)]; exact OwnI.keep (w' := World.drewN _ _) (hO.out.alloc _) rfl), hid (bdn.mpr (hBe.out.alloc hBe.out.size _))⟩
        case measure => simp [intOf]; omega
      · have hco := hO.out.reads C (by rw [cutL_length]; exact hC3)
        have hcf := hO.out.free C
        rw [Nat.zero_add] at hco
        have hcl := cutN_le es cs xs C e
        rw [← cutL_at (es := es) (c := cs) (xs := xs) hC3] at hcl
        obtain ⟨z, hz⟩ : ∃ z, eI (cutL es cs xs e) C = z := ⟨_, rfl⟩
        rw [hz] at hco hcl
        have HZ := hid hz
        obtain ⟨z1, z2⟩ := hcl
        have z3 : z ≤ 30 := by omega
        clear hz
        go_wp2
        go_quiet ((first | (go_at_call_of 82 X; exact HCT.out _) | (go_at_call_of 82 Y; exact HCU.out _)))
        go_wp2
        go_roundw
        case rel =>
          refine ⟨e + 1, by omega, by go_num, hid ?_, hid ?_⟩
          · rw [cutL_yes (by rw [HCut.out]; rfl) hC3 HC1.out, HZ.out]
            first
              | exact OwnI.set (OwnI.keep (w' := World.drewN _ _) (hO.out.alloc _) rfl) (by rw [cutL_length]; exact hC3) _
              | exact OwnI.keep (w' := World.drewN _ _) ((OwnI.set hO.out (by rw [cutL_length]; exact hC3) _).alloc _) rfl
          · first
              | exact (bdn.mpr (hBe.out.alloc hBe.out.size _)).setCell (p := ⟨w2.heap.size, C, none⟩) (Nat.le_refl _) _
              | exact bdn.mpr ((hBe.out.setCell (p := ⟨w2.heap.size, C, none⟩) (Nat.le_refl _) _).alloc (by simpa [World.setCell] using hBe.out.size) _)
        case measure => simp [intOf]; omega
      · have hco := hO.out.reads C (by rw [cutL_length]; exact hC3)
        have hcf := hO.out.free C
        rw [Nat.zero_add] at hco
        have hcl := cutN_le es cs xs C e
        rw [← cutL_at (es := es) (c := cs) (xs := xs) hC3] at hcl
        obtain ⟨z, hz⟩ : ∃ z, eI (cutL es cs xs e) C = z := ⟨_, rfl⟩
        rw [hz] at hco hcl
        have HZ := hid hz
        obtain ⟨z1, z2⟩ := hcl
        have z3 : z ≤ 30 := by omega
        clear hz
        go_wp2
        go_quiet ((first | (go_at_call_of 82 X; exact HCT.out _) | (go_at_call_of 82 Y; exact HCU.out _)))
        go_wp2
        go_roundw
        case rel =>
          refine ⟨e + 1, by omega, by go_num, hid ?_, hid ?_⟩
          · rw [cutL_yes (by rw [HCut.out]; rfl) hC3 HC1.out, HZ.out]
            first
              | exact OwnI.set (OwnI.keep (w' := World.drewN _ _) (hO.out.alloc _) rfl) (by rw [cutL_length]; exact hC3) _
              | exact OwnI.keep (w' := World.drewN _ _) ((OwnI.set hO.out (by rw [cutL_length]; exact hC3) _).alloc _) rfl
          · first
              | exact (bdn.mpr (hBe.out.alloc hBe.out.size _)).setCell (p := ⟨w2.heap.size, C, none⟩) (Nat.le_refl _) _
              | exact bdn.mpr ((hBe.out.setCell (p := ⟨w2.heap.size, C, none⟩) (Nat.le_refl _) _).alloc (by simpa [World.setCell] using hBe.out.size) _)
        case measure => simp [intOf]; omega
      · go_wp2
        go_quiet ((first | (go_at_call_of 82 X; exact HCT.out _) | (go_at_call_of 82 Y; exact HCU.out _)))
        go_wp2
        go_roundw
        case rel => exact ⟨e + 1, by omega, by go_num, hid (by rw [cutL_no (by rw [HCut.out]; rfl)]; exact OwnI.keep (w' := World.drewN _ _) (hO.out.alloc _) rfl), hid (bdn.mpr (hBe.out.alloc hBe.out.size _))⟩
        case measure => simp [intOf]; omega
    · obtain rfl : e = n := by omega
      go_wp2
      go_ret2
      exact ⟨_, _, rfl, FreshI.less (FreshI.of_own hO.out (cutL_length _ _ _ _) (Nat.le_refl _)) (by have := HB2.out.size; omega), bfrom HB2.out hBe.out⟩

theorem iCutNumbers_any (s : Int) (p : Option Addr) (n c : Nat) (es : List (Int × Int)) (pc : Option Addr) (m d : Nat) (cs : List Int) (ps : Option Addr) (k f : Nat) (xs : List Int) (w : World) (hm : n ≤ 1048576) (hn : es.length = n) (hr : SeesE w p es) (hm2 : m ≤ 1048576) (hl : cs.length = m) (hrc : SeesI w pc cs) (hk : k ≤ 1048576) (hx : xs.length = k) (hrx : SeesI w ps xs) :
    Calls Try.prog 46 #[.agg #[.int .i64 s, .slice p n c], .slice pc m d, .slice ps k f] w fun e' w' => ∃ q cap, e' = .returned (.tuple #[.slice q (fCutNumbers s es cs xs).1.length cap, .int .i64 (fCutNumbers s es cs xs).2]) ∧ FreshI w.heap.size w' q (fCutNumbers s es cs xs).1.length cap (fCutNumbers s es cs xs).1 ∧ Below w.heap.size w w' := by
  unfold fCutNumbers
  by_cases g : IsG s es
  · rw [if_pos g]
    by_cases gc : isColP es cs
    · rw [if_pos gc]
      obtain ⟨b, off, rfl, rd⟩ := isG_sees g hr
      obtain ⟨cb, co, rfl, rc⟩ := cols_sees g gc hrc
      obtain rfl : m = n := by rw [← hl, ← hn]; exact gc.1
      have l30 := isG_len g
      obtain ⟨N, rfl⟩ : ∃ N : Nat, s = N := ⟨_, (Int.toNat_of_nonneg (by have := g.1.1.1; omega)).symm⟩
      by_cases gs : isSetP N xs
      · rw [if_pos gs, hn]
        exact iCut_loop N b off m c cb co d k f ps es cs xs w hn rd hl rc hx hk hrx g gc gs
      · rw [if_neg gs]
        exact (iCut_set N b off m c cb co d k f ps es cs xs w hn (by omega) rd hl rc hx hk hrx (by unfold colsCode; rw [if_pos g, if_pos (fun _ _ => gc)]) gs).mono fun e w' ⟨he, hb⟩ => ⟨none, 0, he, FreshI.nil _ _, hb⟩
    · rw [if_neg gc]
      exact (iCut_code s 2 p pc ps n c m d k f es cs w hn hm hr hl hm2 hrc (by unfold colsCode; rw [if_pos g, if_neg (fun h => gc (h 0 (by omega)))]) rfl).mono fun e w' ⟨he, hb⟩ => ⟨none, 0, he, FreshI.nil _ _, hb⟩
  · rw [if_neg g]
    exact (iCut_code s 1 p pc ps n c m d k f es cs w hn hm hr hl hm2 hrc (by unfold colsCode; rw [if_neg g]) rfl).mono fun e w' ⟨he, hb⟩ => ⟨none, 0, he, FreshI.nil _ _, hb⟩

end Go.Proofs.Ytkcljjbjlhageab
