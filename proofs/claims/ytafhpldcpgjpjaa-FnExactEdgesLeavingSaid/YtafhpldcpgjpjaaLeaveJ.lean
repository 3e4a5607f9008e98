/- EdgesLeaving in the program, walked. -/
import Derived.Test.YtafhpldcpgjpjaaImplG
import Derived.Test.YtafhpldcpgjpjaaLeaveI
namespace Go.Proofs.Ytafhpldcpgjpjaa
open Go.RowKit

set_option maxRecDepth 100000 in
set_option maxHeartbeats 2000000 in
theorem iLeave_none (s : Int) (p ps : Option Addr) (n c k f : Nat) (es : List (Int × Int)) (w : World) (hn : es.length = n) (hm : n ≤ 1048576) (hr : SeesE w p es) (g : ¬ IsG s es) :
    Calls Try.prog 41 #[.agg #[.int .i64 s, .slice p n c], .slice ps k f] w fun e' w' => e' = .returned (.tuple #[.slice none 0 0, .int .i64 1]) ∧ Below w.heap.size w w' := by
  have Hn := hid hn
  have Hr := hid hr
  have G := hid g
  clear hn hr g
  go_enter Try.func41, Try.ntmps41
  go_wp2_with fail
  refine (iIsGraph_any _ _ _ _ es _ hm Hn.out (Hr.out.on (on_alloc _ _))).mono ?_
  rw [decide_eq_false G.out]
  rintro e w2 ⟨rfl, hb2⟩
  have hB2 := bfrom (w := w) (by go_grown) hb2
  go_wp2
  go_ret2
  exact ⟨rfl, hB2⟩

set_option maxRecDepth 100000 in
set_option maxHeartbeats 4000000 in
theorem iLeave_set (N : Nat) (b off n c k f : Nat) (ps : Option Addr) (es : List (Int × Int)) (xs : List Int) (w : World) (hn : es.length = n) (hr : ReadsE w b off es) (hx : xs.length = k) (hk9 : k ≤ 1048576) (hrx : SeesI w ps xs) (g : IsG N es) (gs : ¬ isSetP N xs) :
    Calls Try.prog 41 #[.agg #[.int .i64 N, .slice (some ⟨b, off, none⟩) n c], .slice ps k f] w fun e' w' => e' = .returned (.tuple #[.slice none 0 0, .int .i64 2]) ∧ Below w.heap.size w w' := by
  have hn30 : n ≤ 30 := by have := isG_len g; omega
  have Hn := hid hn
  have Hr := hid hr
  have Hx := hid hx
  have Hrx := hid hrx
  have G := hid g
  have GS := hid gs
  clear hn hr hx hrx g gs
  go_enter Try.func41, Try.ntmps41
  go_wp2_with fail
  refine (iIsGraph_any _ _ _ _ es _ (by omega) Hn.out (SeesE.on (.inr ⟨b, off, rfl, Hr.out⟩) (on_alloc _ _))).mono ?_
  rw [decide_eq_true G.out]
  rintro e w2 ⟨rfl, hb2⟩
  have hB2 := bfrom (w := w) (on_alloc _ _) hb2
  have hX2 : Box w2 w.heap.size N (some ⟨b, off, none⟩) n c := (Box.new w (N : Int) (some ⟨b, off, none⟩) n c 31).on hb2
  have hx2 := hX2.1
  have hz2' := hX2.lt
  have HB2 := hid hB2
  clear hb2 hX2 hB2
  go_wp2_with fail
  refine (iSet_any _ _ _ _ xs _ Hx.out hk9 (Hrx.out.on HB2.out)).mono ?_
  rw [decide_eq_false GS.out]
  rintro e w3 ⟨rfl, rfl⟩
  go_wp2
  go_ret2
  exact ⟨rfl, HB2.out⟩

set_option maxRecDepth 100000 in
set_option maxHeartbeats 8000000 in
theorem iLeave_yes (N : Nat) (b off n c k f : Nat) (ps : Option Addr) (es : List (Int × Int)) (xs : List Int) (w : World) (hn : es.length = n) (hr : ReadsE w b off es) (hx : xs.length = k) (hk9 : k ≤ 1048576) (hrx : SeesI w ps xs) (g : IsG N es) (gs : isSetP N xs) :
    Calls Try.prog 41 #[.agg #[.int .i64 N, .slice (some ⟨b, off, none⟩) n c], .slice ps k f] w fun e' w' => ∃ q cap, e' = .returned (.tuple #[.slice q (leaveU es xs n).length cap, .int .i64 0]) ∧ FreshI w.heap.size w' q (leaveU es xs n).length cap (leaveU es xs n) ∧ Below w.heap.size w w' := by
  have hn30 : n ≤ 30 := by have := isG_len g; omega
  have Hn := hid hn
  have Hr := hid hr
  have Hx := hid hx
  have Hrx := hid hrx
  have G := hid g
  have GS := hid gs
  obtain ⟨i0, hi, hz0, hz1, hz2⟩ := info_parts infoInt
  have Hi := hid hi
  clear hn hr hx hrx g gs hi
  go_enter Try.func41, Try.ntmps41
  go_wp2_with fail
  refine (iIsGraph_any _ _ _ _ es _ (by omega) Hn.out (SeesE.on (.inr ⟨b, off, rfl, Hr.out⟩) (on_alloc _ _))).mono ?_
  rw [decide_eq_true G.out]
  rintro e w2 ⟨rfl, hb2⟩
  have hB2 := bfrom (w := w) (on_alloc _ _) hb2
  have hX2 : Box w2 w.heap.size N (some ⟨b, off, none⟩) n c := (Box.new w (N : Int) (some ⟨b, off, none⟩) n c 31).on hb2
  have hx2 := hX2.1
  have hy2 := hX2.2
  have hz2' := hX2.lt
  have HB2 := hid hB2
  have hbb : b < w2.heap.size := reads_lt (Hr.out.on hB2) (by have := isG_len G.out; have := G.out.1.1.2.2.2; have := G.out.1.1.1; omega)
  clear hb2 hX2 hB2
  go_wp2_with fail
  refine (iSet_any _ _ _ _ xs _ Hx.out hk9 (Hrx.out.on HB2.out)).mono ?_
  rw [decide_eq_true GS.out]
  rintro e w3 ⟨rfl, rfl⟩
  go_wp2
  go_loopw [6, 20] (fun u ee wr => ∃ (e l cap : Nat) (q : Option Addr), e ≤ n ∧ l ≤ e ∧ u = .slice q l cap ∧ ee = .int .i64 e ∧ Hid (wr.ownsRow w2.heap.size 2 1 (.slice q l cap) l (intVals (leaveU es xs e)) ∧ (leaveU es xs e).length = l) ∧ Hid (Below w2.heap.size w2 wr)) (fun _ ee _ => n - (intOf ee).toNat)
  case atStart => exact ⟨0, 0, 0, none, Nat.zero_le _, Nat.le_refl _, rfl, rfl, hid ⟨World.ownsRow_nil _ _ _ _, rfl⟩, hid (Below.refl _ _)⟩
  case round =>
    obtain ⟨e, l, cap, q, he, hle, rfl, rfl, hO, hBe⟩ := hrel
    by_cases hlt : e < n
    · have HBw := hid (bfrom HB2.out hBe.out)
      have hbe : b < wr.heap.size := by have := hBe.out.size; omega
      have hc1 := (Hr.out.on HBw.out e (by have := Hn.out; omega)).1
      have hc2 := (Hr.out.on HBw.out e (by have := Hn.out; omega)).2
      obtain ⟨X, hX1⟩ : ∃ X, eA es e = X := ⟨_, rfl⟩
      obtain ⟨Y, hY1⟩ : ∃ Y, eB es e = Y := ⟨_, rfl⟩
      rw [hX1] at hc1
      rw [hY1] at hc2
      obtain ⟨r, hr1⟩ : ∃ r, (decide (X ∈ xs) != decide (Y ∈ xs)) = r := ⟨_, rfl⟩
      have HR := hid hr1
      have HCut := hid (show leaveB es xs e = r by unfold leaveB; rw [hX1, hY1, hr1])
      have hl63 : l + 1 ≤ 31 := by omega
      clear hX1 hY1 hr1
      obtain ⟨wo, rfl⟩ : ∃ wo : World, wo = wr := ⟨_, rfl⟩
      cases r
      · go_wp2_with fail
        refine (iLeaves_any _ _ _ _ _ xs _ Hx.out hk9 ((Hrx.out.on HBw.out).on (on_alloc _ _))).mono ?_
        rw [HR.out]
        rintro e' w4 ⟨rfl, hb4⟩
        have hB4 := bfrom (w := wo) (on_alloc _ _) hb4
        have HB4 := hid hB4
        clear hb4 hB4
        go_wp2
        go_roundw
        case rel => exact ⟨e + 1, l, cap, q, by omega, by omega, rfl, by go_num, hid (by rw [leaveU_no HCut.out]; exact ⟨hO.out.1.kept (grown_below HB4.out) (by cases hq : (Value.slice q l cap).ownBlock with | none => exact .inl rfl | some g => exact .inr (by simp)), hO.out.2⟩), hid (hBe.out.trans (HB4.out.mono hBe.out.size))⟩
        case measure => simp [intOf]; omega
      · go_wp2_with fail
        refine (iLeaves_any _ _ _ _ _ xs _ Hx.out hk9 ((Hrx.out.on HBw.out).on (on_alloc _ _))).mono ?_
        rw [HR.out]
        rintro e' w4 ⟨rfl, hb4⟩
        have hB4 := bfrom (w := wo) (on_alloc _ _) hb4
        have HB4 := hid hB4
        have HO4 := hid (show w4.ownsRow w2.heap.size 2 1 (.slice q l cap) l (intVals (leaveU es xs e)) from hO.out.1.kept (grown_below hB4) (by cases hq : (Value.slice q l cap).ownBlock with | none => exact .inl rfl | some g => exact .inr (by simp)))
        have HB5 := hid (hBe.out.trans (hB4.mono hBe.out.size))
        have hz5 := HB5.out.size
        clear hb4 hB4
        go_wp2_with (at_builtin; go_must (refine wpList_append_lies _ rfl (.tmp 28) (.tmp 30) 44 rfl w2.heap.size 2 i0 (.int .i64 0) 1 8 Try.underlying44 Hi.out hz0 hz1 hz2 rfl (by decide) (.slice q l cap) l _ rfl (HO4.out.alloc _) ⟨w4.heap.size, 0, none⟩ 1 1 [.int .i64 e] rfl rfl (World.news_of_block (cs := #[.int .i64 e]) (t := 2) (fr := (0, 0)) (heap_alloc_new _ _)) (by simp [Value.oneCell']) (by decide) (by unfold maxLen; omega) (by omega) (by simp; omega) (w4.heap.size + 1) (by simp) ?_); intro g cap' w5 hown1 hgrow1 hlie hg1; have Hown := hid hown1; have Hgrow := hid hgrow1; clear hown1 hgrow1 hlie)
        have hrow : ∀ j, (Value.slice q l cap).ownBlock = some j → w2.heap.size ≤ j ∧ j < w4.heap.size := HO4.out.lt
        go_roundw
        case rel =>
          refine ⟨e + 1, l + 1, cap', some ⟨g, 0, none⟩, by omega, by omega, rfl, by go_num, hid ⟨?_, ?_⟩, hid ?_⟩
          · rw [leaveU_yes HCut.out, intVals_append]; exact Hown.out
          · rw [leaveU_yes HCut.out, List.length_append, hO.out.2]; rfl
          · exact (HB5.out.alloc hz5 _).grown Hgrow.out (by simp; omega) (fun j hj => by have := (hrow j hj).1; omega)
        case measure => simp [intOf]; omega
    · obtain rfl : e = n := by omega
      go_wp2
      go_ret2
      obtain ⟨ho1, rfl⟩ := hO.out
      exact ⟨q, cap, rfl, FreshI.less ⟨ho1, rfl⟩ (by have := HB2.out.size; omega), bfrom HB2.out hBe.out⟩

theorem iEdgesLeaving_any (s : Int) (p : Option Addr) (n c : Nat) (es : List (Int × Int)) (ps : Option Addr) (k f : Nat) (xs : List Int) (w : World) (hm : n ≤ 1048576) (hn : es.length = n) (hr : SeesE w p es) (hk : k ≤ 1048576) (hx : xs.length = k) (hrx : SeesI w ps xs) :
    Calls Try.prog 41 #[.agg #[.int .i64 s, .slice p n c], .slice ps k f] w fun e' w' => ∃ q cap, e' = .returned (.tuple #[.slice q (fEdgesLeaving s es xs).1.length cap, .int .i64 (fEdgesLeaving s es xs).2]) ∧ FreshI w.heap.size w' q (fEdgesLeaving s es xs).1.length cap (fEdgesLeaving s es xs).1 ∧ Below w.heap.size w w' := by
  unfold fEdgesLeaving
  by_cases g : IsG s es
  · rw [if_pos g]
    obtain ⟨b, off, rfl, rd⟩ := isG_sees g hr
    obtain ⟨N, rfl⟩ : ∃ N : Nat, s = N := ⟨_, (Int.toNat_of_nonneg (by have := g.1.1.1; omega)).symm⟩
    by_cases gs : isSetP N xs
    · rw [if_pos gs, hn]
      exact iLeave_yes N b off n c k f ps es xs w hn rd hx hk hrx g gs
    · rw [if_neg gs]
      exact (iLeave_set N b off n c k f ps es xs w hn rd hx hk hrx g gs).mono fun e w' ⟨he, hb⟩ => ⟨none, 0, he, FreshI.nil _ _, hb⟩
  · rw [if_neg g]
    exact (iLeave_none s p ps n c k f es w hn hm hr g).mono fun e w' ⟨he, hb⟩ => ⟨none, 0, he, FreshI.nil _ _, hb⟩

end Go.Proofs.Ytafhpldcpgjpjaa
