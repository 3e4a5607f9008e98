/- SumOfSets in the model. -/
import Derived.Test.YtogdcoioflcdiaaEdgM
import Derived.Test.YtogdcoioflcdiaaSumA
import Derived.Test.YtogdcoioflcdiaaFar
import Derived.BigRegion
import Derived.BigQuiet
import Derived.Deep.AppendLies
import Derived.Deep.DeepMust
import Derived.Outline
namespace Go.Proofs.Ytogdcoioflcdiaa
open Go.RowKit

set_option maxRecDepth 100000 in
set_option maxHeartbeats 2000000 in
theorem sHas7_any (q : Option Addr) (n c : Nat) (x : Int) (xs : List Int) (w : World) (hn : xs.length = n) (hm : n ≤ 1048576) (hr : SeesI w q xs) :
    Calls Try.prog 55 #[.slice q n c, .int .i64 x] w fun e w' => e = .returned (.bool (decide (x ∈ xs))) ∧ w = w' := by
  have Hn := hid hn
  have Hr := hid hr
  have hm9 : n ≤ 9223372036854775807 := by omega
  obtain ⟨r, hR⟩ : ∃ r, decide (x ∈ xs) = r := ⟨_, rfl⟩
  rw [hR]
  have HR := hid hR
  clear hn hr hR
  go_enter Try.func55, Try.ntmps55
  go_wp2
  go_loop [5] (fun i => ∃ k : Nat, k ≤ n ∧ i = .int .i64 k ∧ Hid (∀ j, j < k → eI xs j ≠ x)) (fun i => n - (intOf i).toNat)
  case atStart => exact ⟨0, Nat.zero_le _, rfl, hid (fun j hj => by omega)⟩
  case round =>
    obtain ⟨k, hk, rfl, hE⟩ := hrel
    by_cases hlt : k < n
    · obtain ⟨b, off, rfl, hrd⟩ : ∃ b off, q = some ⟨b, off, none⟩ ∧ ReadsI w b off xs := by
        rcases Hr.out with h | h
        · have := Hn.out; rw [h] at this; simp at this; omega
        · exact h
      have h1 := hrd k (by have := Hn.out; omega)
      obtain ⟨y, hy⟩ : ∃ y, eI xs k = y := ⟨_, rfl⟩
      rw [hy] at h1
      have HY := hid hy
      clear hrd hy
      by_cases hxy : y = x
      · have g1 : (y == x) = true := by simpa using hxy
        have HXY := hid hxy
        clear hxy
        go_wp2
        go_ret
        refine ⟨?_, rfl⟩
        rw [← HR.out, decide_eq_true (show x ∈ xs by rw [← HXY.out, ← HY.out]; exact eI_mem (by have := Hn.out; omega))]
        rfl
      · have g1 : (y == x) = false := by simpa using hxy
        have HXY := hid hxy
        clear hxy
        go_wp2
        go_round
        case rel =>
          refine ⟨k + 1, by omega, by go_num, hid (fun j hj => ?_)⟩
          rcases Nat.lt_or_ge j k with h | h
          · exact hE.out j h
          · have ej : j = k := by omega
            rw [ej, HY.out]
            exact HXY.out
        case measure => simp [intOf]; omega
    · have hkn := hid (show k = n by omega)
      go_wp2
      go_ret
      refine ⟨?_, rfl⟩
      rw [← HR.out, decide_eq_false (fun hm => by
        obtain ⟨j, hj, e⟩ := List.getElem_of_mem hm
        exact hE.out j (by have := Hn.out; have := hkn.out; omega) (by rw [eI_lt hj, e]))]
      rfl


set_option maxRecDepth 100000 in
set_option maxHeartbeats 4000000 in
theorem sSum_first (s q0 : Int) (p pa pb : Option Addr) (n c ka fa kb fb : Nat) (es : List (Int × Int)) (xs : List Int) (w : World) (hm : n ≤ 1048576) (hn : es.length = n) (hr : SeesE w p es) (hk9 : ka ≤ 1048576) (hx : xs.length = ka) (hrx : SeesI w pa xs) (hq : edgesCode s es xs = q0) (hne : (q0 != 0) = true) :
    Calls Try.prog 16 #[.agg #[.int .i64 s, .slice p n c], .slice pa ka fa, .slice pb kb fb] w fun e' w' => e' = .returned (.tuple #[.slice none 0 0, .int .i64 q0]) ∧ Below w.heap.size w w' := by
  have Hn := hid hn
  have Hr := hid hr
  have Hx := hid hx
  have Hrx := hid hrx
  have HQ := hid hq
  clear hn hr hx hrx hq
  go_enter Try.func16, Try.ntmps16
  go_wp2_with fail
  refine (sEdges_any _ _ _ _ _ _ _ es xs _ hm Hn.out (Hr.out.on (on_alloc _ _)) hk9 Hx.out (Hrx.out.on (on_alloc _ _))).mono ?_
  rw [HQ.out]
  rintro e w2 ⟨rfl, hb2⟩
  have HB2 := hid (bfrom (w := w) (on_alloc _ _) hb2)
  clear hb2
  go_wp2
  go_ret2
  exact ⟨rfl, HB2.out⟩

set_option maxRecDepth 100000 in
set_option maxHeartbeats 4000000 in
theorem sSum_second (N q0 : Int) (b off : Nat) (pa pb : Option Addr) (n c ka fa kb fb : Nat) (es : List (Int × Int)) (xs ys : List Int) (w : World) (hm : n ≤ 1048576) (hn : es.length = n) (hr : ReadsE w b off es) (hk9 : ka ≤ 1048576) (hx : xs.length = ka) (hrx : SeesI w pa xs) (hk8 : kb ≤ 1048576) (hy : ys.length = kb) (hry : SeesI w pb ys) (hq1 : edgesCode N es xs = 0) (hq : edgesCode N es ys = q0) (hne : (q0 != 0) = true) :
    Calls Try.prog 16 #[.agg #[.int .i64 N, .slice (some ⟨b, off, none⟩) n c], .slice pa ka fa, .slice pb kb fb] w fun e' w' => e' = .returned (.tuple #[.slice none 0 0, .int .i64 q0]) ∧ Below w.heap.size w w' := by
  have Hn := hid hn
  have Hr := hid hr
  have Hx := hid hx
  have Hrx := hid hrx
  have Hy := hid hy
  have Hry := hid hry
  have HQ1 := hid hq1
  have HQ := hid hq
  clear hn hr hx hrx hy hry hq1 hq
  go_enter Try.func16, Try.ntmps16
  go_wp2_with fail
  refine (sEdges_any _ _ _ _ _ _ _ es xs _ hm Hn.out (SeesE.on (.inr ⟨b, off, rfl, Hr.out⟩) (on_alloc _ _)) hk9 Hx.out (Hrx.out.on (on_alloc _ _))).mono ?_
  rw [HQ1.out]
  rintro e w2 ⟨rfl, hb2⟩
  have HB2 := hid (bfrom (w := w) (on_alloc _ _) hb2)
  have hX2 := (Box.new w N (some ⟨b, off, none⟩) n c 31).on hb2
  have hx2 := hX2.1
  have hy2 := hX2.2
  have hz2 := hX2.lt
  clear hX2 hb2
  go_wp2_with fail
  refine (sEdges_any _ _ _ _ _ _ _ es ys _ hm Hn.out (SeesE.on (.inr ⟨b, off, rfl, Hr.out⟩) HB2.out) hk8 Hy.out (Hry.out.on HB2.out)).mono ?_
  rw [HQ.out]
  rintro e w3 ⟨rfl, hb3⟩
  have HB3 := hid (bfrom HB2.out hb3)
  clear hx2 hy2 hz2 hb3
  go_wp2
  go_ret2
  exact ⟨rfl, HB3.out⟩

set_option maxRecDepth 100000 in
set_option maxHeartbeats 8000000 in
theorem sSum_yes (N b off : Nat) (pa pb : Option Addr) (n c ka fa kb fb : Nat) (es : List (Int × Int)) (xs ys : List Int) (w : World) (hn : es.length = n) (hr : ReadsE w b off es) (g : IsG N es) (hx : xs.length = ka) (hrx : SeesI w pa xs) (gx : isSetP n xs) (hy : ys.length = kb) (hry : SeesI w pb ys) (gy : isSetP n ys) :
    Calls Try.prog 16 #[.agg #[.int .i64 N, .slice (some ⟨b, off, none⟩) n c], .slice pa ka fa, .slice pb kb fb] w fun e' w' => ∃ q cap, e' = .returned (.tuple #[.slice q (sumU xs ys n).length cap, .int .i64 0]) ∧ FreshI w.heap.size w' q (sumU xs ys n).length cap (sumU xs ys n) ∧ Below w.heap.size w w' := by
  have hn30 : n ≤ 30 := by have := isG_len g; omega
  have hka : ka ≤ 30 := by have := set_len gx; omega
  have hkb : kb ≤ 30 := by have := set_len gy; omega
  have Hn := hid hn
  have Hr := hid hr
  have Hx := hid hx
  have Hrx := hid hrx
  have Hy := hid hy
  have Hry := hid hry
  have HQ1 := hid (show edgesCode N es xs = 0 by unfold edgesCode setCode; rw [if_pos g, hn, if_pos gx])
  have HQ2 := hid (show edgesCode N es ys = 0 by unfold edgesCode setCode; rw [if_pos g, hn, if_pos gy])
  obtain ⟨i0, hi, hz0, hz1, hz2⟩ := info_parts infoInt
  have Hi := hid hi
  clear hn hr g hx hrx gx hy hry gy hi
  go_enter Try.func16, Try.ntmps16
  go_wp2_with fail
  refine (sEdges_any _ _ _ _ _ _ _ es xs _ (by omega) Hn.out (SeesE.on (.inr ⟨b, off, rfl, Hr.out⟩) (on_alloc _ _)) (by omega) Hx.out (Hrx.out.on (on_alloc _ _))).mono ?_
  rw [HQ1.out]
  rintro e w2 ⟨rfl, hb2⟩
  have HB2 := hid (bfrom (w := w) (on_alloc _ _) hb2)
  have hX2 := (Box.new w N (some ⟨b, off, none⟩) n c 31).on hb2
  have HX2 := hid hX2
  have hx2 := hX2.1
  have hy2 := hX2.2
  have hz2 := hX2.lt
  clear hX2 hb2
  go_wp2_with fail
  refine (sEdges_any _ _ _ _ _ _ _ es ys _ (by omega) Hn.out (SeesE.on (.inr ⟨b, off, rfl, Hr.out⟩) HB2.out) (by omega) Hy.out (Hry.out.on HB2.out)).mono ?_
  rw [HQ2.out]
  rintro e w3 ⟨rfl, hb3⟩
  have HB3 := hid (bfrom HB2.out hb3)
  have HX3 := hid (HX2.out.on hb3)
  clear hx2 hy2 hz2 hb3 HX2 HB2
  have hs3 := HB3.out.size
  go_wp2
  obtain ⟨w4, hw4⟩ : ∃ w4, w4 = w3.alloc (.cells #[] 2) := ⟨_, rfl⟩
  rw [← hw4]
  have HB4 := hid (show Below w3.heap.size w3 w4 by rw [hw4]; exact on_alloc _ _)
  have HO4 := hid (show w4.ownsRow w3.heap.size 2 1 (.slice (some ⟨w3.heap.size, 0, none⟩) 0 0) 0 (intVals (sumU xs ys 0)) by rw [hw4]; exact World.ownsRow_made (base := w3.heap.size) (e := 2) (size := 1) w3 #[] 0 (Nat.le_refl _) (Nat.zero_le _) rfl)
  have hz4 : w3.heap.size < w4.heap.size := by rw [hw4]; simp
  clear hw4
  go_loopw [10, 11] (fun u v wr => ∃ (k l cap : Nat) (q : Option Addr), k ≤ n ∧ l ≤ k ∧ u = .slice q l cap ∧ v = .int .i64 k ∧ Hid ((sumU xs ys k).length = l ∧ wr.ownsRow w3.heap.size 2 1 (.slice q l cap) l (intVals (sumU xs ys k))) ∧ Hid (Below w3.heap.size w3 wr)) (fun _ v _ => n - (intOf v).toNat)
  case atStart => exact ⟨0, 0, 0, _, Nat.zero_le _, Nat.le_refl _, rfl, rfl, hid ⟨rfl, HO4.out⟩, HB4⟩
  case round =>
    obtain ⟨k, l, cap, q, hk, hlk, rfl, rfl, hO, hB⟩ := hrel
    clear HO4 HB4
    have HBw := hid (bfrom HB3.out hB.out)
    have HXr := hid (HX3.out.on hB.out)
    have hyr := HXr.out.2
    have hzr := HXr.out.lt
    have hszr := hB.out.size
    by_cases hlt : k < n
    · have hlt' : (k : Int) < (n : Int) := by omega
      obtain ⟨p1, hp1⟩ : ∃ p, decide ((k : Int) ∈ xs) = p := ⟨_, rfl⟩
      obtain ⟨p2, hp2⟩ : ∃ p, decide ((k : Int) ∈ ys) = p := ⟨_, rfl⟩
      have HOne := hid (show oneB xs ys k = (p1 != p2) by unfold oneB; rw [hp1, hp2])
      have hc1 := sHas7_any pa ka fa (k : Int) xs wr Hx.out (by omega) (Hrx.out.on HBw.out)
      have hc2 := sHas7_any pb kb fb (k : Int) ys wr Hy.out (by omega) (Hry.out.on HBw.out)
      rw [hp1] at hc1
      rw [hp2] at hc2
      have HC1 := hid (fun (ww : World) (hb : Below wr.heap.size wr ww) => show Calls Try.prog 55 #[.slice pa ka fa, .int .i64 (k : Int)] ww fun e w' => e = .returned (.bool p1) ∧ ww = w' by rw [← hp1]; exact sHas7_any pa ka fa (k : Int) xs ww Hx.out (by omega) ((Hrx.out.on HBw.out).on hb))
      have HC2 := hid (fun (ww : World) (hb : Below wr.heap.size wr ww) => show Calls Try.prog 55 #[.slice pb kb fb, .int .i64 (k : Int)] ww fun e w' => e = .returned (.bool p2) ∧ ww = w' by rw [← hp2]; exact sHas7_any pb kb fb (k : Int) ys ww Hy.out (by omega) ((Hry.out.on HBw.out).on hb))
      have hrow : ∀ j, (Value.slice q l cap).ownBlock = some j → w3.heap.size ≤ j ∧ j < wr.heap.size := hO.out.2.lt
      clear hp1 hp2 hc1 hc2
      obtain ⟨wo, rfl⟩ : ∃ wo : World, wo = wr := ⟨_, rfl⟩
      cases p1 <;> cases p2
      case false.false | true.true =>
        go_wp2_with (first
          | (go_at_call_of 55 fa; refine (HC1.out _ (Below.refl _ _)).mono ?_; rintro e' w' ⟨rfl, rfl⟩)
          | (go_at_call_of 55 fb; refine (HC2.out _ (Below.refl _ _)).mono ?_; rintro e' w' ⟨rfl, rfl⟩))
        go_roundw
        case rel => exact ⟨k + 1, l, cap, q, by omega, by omega, rfl, by go_num, hid (by rw [sumU, numsB_no (by rw [HOne.out]; rfl)]; exact hO.out), hB⟩
        case measure => simp [intOf]; omega
      case false.true | true.false =>
        go_wp2_with (first
          | (go_at_call_of 55 fa; refine (HC1.out _ (Below.refl _ _)).mono ?_; rintro e' w' ⟨rfl, rfl⟩)
          | (go_at_call_of 55 fb; refine (HC2.out _ (Below.refl _ _)).mono ?_; rintro e' w' ⟨rfl, rfl⟩)
          | (at_builtin; go_must (refine wpList_append_lies _ rfl (.tmp 39) (.tmp 41) 25 rfl w3.heap.size 2 i0 (.int .i64 0) 1 8 Try.underlying25 Hi.out hz0 hz1 hz2 rfl (by decide) (.slice q l cap) l _ rfl (hO.out.2.alloc _) ⟨wo.heap.size, 0, none⟩ 1 1 [.int .i64 k] rfl rfl (World.news_of_block (cs := #[.int .i64 k]) (t := 2) (fr := (0, 0)) (heap_alloc_new _ _)) (by simp [Value.oneCell']) (by decide) (by unfold maxLen; omega) (by omega) (by simp; omega) (wo.heap.size + 1) (by simp) ?_); intro g cap' w5 hown1 hgrow1 hlie hg1; have Hown := hid hown1; have Hgrow := hid hgrow1; clear hown1 hgrow1 hlie))
        go_roundw
        case rel =>
          refine ⟨k + 1, l + 1, cap', some ⟨g, 0, none⟩, by omega, by omega, rfl, by go_num, hid ⟨?_, ?_⟩, hid ?_⟩
          · rw [sumU, numsB_yes (by rw [HOne.out]; rfl), List.length_append, show (numsB (oneB xs ys) k).length = l from hO.out.1]; rfl
          · rw [sumU, numsB_yes (by rw [HOne.out]; rfl), intVals_append]; exact Hown.out
          · exact (hB.out.alloc (show w3.heap.size ≤ wo.heap.size by omega) _).grown Hgrow.out (by simp; omega) (fun j hj => by have := (hrow j hj).1; omega)
        case measure => simp [intOf]; omega
    · obtain rfl : k = n := by omega
      go_wp2
      go_ret2
      obtain ⟨rfl, ho1⟩ := hO.out
      exact ⟨q, cap, rfl, FreshI.less ⟨ho1, rfl⟩ (by omega), HBw.out⟩

theorem sSumOfSets_any (s : Int) (p : Option Addr) (n c : Nat) (es : List (Int × Int)) (pa : Option Addr) (ka fa : Nat) (xs : List Int) (pb : Option Addr) (kb fb : Nat) (ys : List Int) (w : World) (hm : n ≤ 1048576) (hn : es.length = n) (hr : SeesE w p es) (hka : ka ≤ 1048576) (hx : xs.length = ka) (hrx : SeesI w pa xs) (hkb : kb ≤ 1048576) (hy : ys.length = kb) (hry : SeesI w pb ys) :
    Calls Try.prog 16 #[.agg #[.int .i64 s, .slice p n c], .slice pa ka fa, .slice pb kb fb] w fun e' w' => ∃ q cap, e' = .returned (.tuple #[.slice q (fSumOfSets s es xs ys).1.length cap, .int .i64 (fSumOfSets s es xs ys).2]) ∧ FreshI w.heap.size w' q (fSumOfSets s es xs ys).1.length cap (fSumOfSets s es xs ys).1 ∧ Below w.heap.size w w' := by
  unfold fSumOfSets
  by_cases g : IsG s es
  · rw [if_pos g]
    obtain ⟨N, rfl⟩ : ∃ N : Nat, s = N := ⟨_, (Int.toNat_of_nonneg (by have := g.1.1.1; omega)).symm⟩
    obtain ⟨b, off, rfl, rd⟩ := isG_sees g hr
    by_cases gx : isSetP es.length xs
    · rw [if_pos gx]
      by_cases gy : isSetP es.length ys
      · rw [if_pos gy, hn]
        exact sSum_yes N b off pa pb n c ka fa kb fb es xs ys w hn rd g hx hrx (by rw [← hn]; exact gx) hy hry (by rw [← hn]; exact gy)
      · rw [if_neg gy]
        exact (sSum_second N 2 b off pa pb n c ka fa kb fb es xs ys w hm hn rd hka hx hrx hkb hy hry (by unfold edgesCode setCode; rw [if_pos g, if_pos gx]) (by unfold edgesCode setCode; rw [if_pos g, if_neg gy]) rfl).mono fun _ _ ⟨h1, h2⟩ => ⟨none, 0, h1, FreshI.nil _ _, h2⟩
    · rw [if_neg gx]
      exact (sSum_first N 2 _ pa pb n c ka fa kb fb es xs w hm hn hr hka hx hrx (by unfold edgesCode setCode; rw [if_pos g, if_neg gx]) rfl).mono fun _ _ ⟨h1, h2⟩ => ⟨none, 0, h1, FreshI.nil _ _, h2⟩
  · rw [if_neg g]
    exact (sSum_first s 1 p pa pb n c ka fa kb fb es xs w hm hn hr hka hx hrx (by unfold edgesCode; rw [if_neg g]) rfl).mono fun _ _ ⟨h1, h2⟩ => ⟨none, 0, h1, FreshI.nil _ _, h2⟩

end Go.Proofs.Ytogdcoioflcdiaa
