/- AddFlows in the model. -/
import Derived.Test.YthncgpbgffbpgaaDoorFloM
import Derived.Deep.AppendLies
import Derived.Deep.DeepMust
import Derived.Deep.RegionHeld3
namespace Go.Proofs.YthncgpbgffbpgaaDoor
open Go.RowKit

theorem addL_succ (m : Int) (xs ys : List Int) (k : Nat) : addL m xs ys (k + 1) = addL m xs ys k ++ [(eI xs k + eI ys k).tmod m] := by
  unfold addL
  rw [List.range_succ, List.map_append]
  rfl

set_option maxRecDepth 100000 in
set_option maxHeartbeats 4000000 in
theorem sAdd_first (s : Int) (p qa qb : Option Addr) (n c ka da kb db : Nat) (es : List (Int × Int)) (m : Int) (xs : List Int) (w : World) (hm : n ≤ 1048576) (hn : es.length = n) (hr : SeesE w p es) (hk9 : ka ≤ 1048576) (hx : xs.length = ka) (hrx : SeesI w qa xs) (h0 : ¬ flCode s es m 0 (m - 1) xs = 0) :
    Calls Tryd.prog 18 #[.agg #[.int .i64 s, .slice p n c], .int .i64 m, .slice qa ka da, .slice qb kb db] w fun e' w' => e' = .returned (.tuple #[.slice none 0 0, .int .i64 (flCode s es m 0 (m - 1) xs)]) ∧ Below w.heap.size w w' := by
  have Hn := hid hn
  have Hr := hid hr
  have Hx := hid hx
  have Hrx := hid hrx
  obtain ⟨r, hR⟩ : ∃ r, flCode s es m 0 (m - 1) xs = r := ⟨_, rfl⟩
  have h0' : (r != 0) = true := by rw [← hR]; simpa using h0
  rw [hR]
  have HR := hid hR
  clear hn hr hx hrx h0 hR
  go_enter Tryd.func18, Tryd.ntmps18
  go_wp2_with fail
  refine (sFList_any s p n c es m qa ka da xs _ _ _ hm Hn.out (Hr.out.on (on_alloc _ _)) hk9 Hx.out (Hrx.out.on (on_alloc _ _))).mono ?_
  rw [fl_wrap, HR.out]
  rintro e w2 ⟨rfl, hb2⟩
  have hB2 : Below w.heap.size w w2 := bfrom (on_alloc _ _) hb2
  clear hb2
  go_wp2
  go_ret2
  exact ⟨rfl, hB2⟩

set_option maxRecDepth 100000 in
set_option maxHeartbeats 4000000 in
theorem sAdd_second (s : Int) (p qa qb : Option Addr) (n c ka da kb db : Nat) (es : List (Int × Int)) (m : Int) (xs ys : List Int) (w : World) (hm : n ≤ 1048576) (hn : es.length = n) (hr : SeesE w p es) (hk9 : ka ≤ 1048576) (hx : xs.length = ka) (hrx : SeesI w qa xs) (hl9 : kb ≤ 1048576) (hy : ys.length = kb) (hry : SeesI w qb ys) (h0 : flCode s es m 0 (m - 1) xs = 0) (h1 : ¬ lstCode es 0 (m - 1) ys = 0) :
    Calls Tryd.prog 18 #[.agg #[.int .i64 s, .slice p n c], .int .i64 m, .slice qa ka da, .slice qb kb db] w fun e' w' => e' = .returned (.tuple #[.slice none 0 0, .int .i64 2]) ∧ Below w.heap.size w w' := by
  have Hn := hid hn
  have Hr := hid hr
  have Hx := hid hx
  have Hrx := hid hrx
  have Hy := hid hy
  have Hry := hid hry
  have H0 := hid h0
  have hm0 : modCode s es m = 0 := by unfold modCode; rw [if_pos (flCode_of h0).1, if_pos (flCode_of h0).2.1]
  have HR := hid (show flCode s es m 0 (m - 1) ys = 2 by
    unfold flCode
    rw [if_pos hm0]
    unfold lstCode at h1 ⊢
    split
    · rename_i h; rw [if_pos h] at h1; exact absurd rfl h1
    · rfl)
  clear hn hr hx hrx hy hry h0 h1 hm0
  go_enter Tryd.func18, Tryd.ntmps18
  go_wp2_with fail
  refine (sFList_any s p n c es m qa ka da xs _ _ _ hm Hn.out (Hr.out.on (on_alloc _ _)) hk9 Hx.out (Hrx.out.on (on_alloc _ _))).mono ?_
  rw [fl_wrap, H0.out]
  rintro e w2 ⟨rfl, hb2⟩
  have HB2 := hid (show Below w.heap.size w w2 from bfrom (on_alloc _ _) hb2)
  have hX2 := (Box.new w s p n c 31).on hb2
  have hx2 := hX2.1
  have hy2 := hX2.2
  have hz2 : w.heap.size < w2.heap.size := hX2.lt
  clear hb2 hX2
  go_wp2_with fail
  refine (sFList_any s p n c es m qb kb db ys _ _ _ hm Hn.out (Hr.out.on HB2.out) hl9 Hy.out (Hry.out.on HB2.out)).mono ?_
  rw [fl_wrap, HR.out]
  rintro e w3 ⟨rfl, hb3⟩
  have HB3 := hid (bfrom HB2.out hb3)
  clear hb3 hx2 hy2
  go_wp2
  go_ret2
  exact ⟨rfl, HB3.out⟩

set_option maxRecDepth 100000 in
set_option maxHeartbeats 8000000 in
theorem sAdd_yes (N b off n c da db : Nat) (qa qb : Option Addr) (es : List (Int × Int)) (m : Int) (xs ys : List Int) (w : World) (hm : n ≤ 1048576) (hn : es.length = n) (hr : ReadsE w b off es) (hx : xs.length = n) (hrx : SeesI w qa xs) (hy : ys.length = n) (hry : SeesI w qb ys) (h0 : flCode N es m 0 (m - 1) xs = 0) (h1 : flCode N es m 0 (m - 1) ys = 0) :
    Calls Tryd.prog 18 #[.agg #[.int .i64 N, .slice (some ⟨b, off, none⟩) n c], .int .i64 m, .slice qa n da, .slice qb n db] w fun e' w' => ∃ q cap, e' = .returned (.tuple #[.slice q (if flowP (zMod m) N es xs ∧ flowP (zMod m) N es ys then (addL m xs ys n, (0 : Int)) else ([], 5)).1.length cap, .int .i64 (if flowP (zMod m) N es xs ∧ flowP (zMod m) N es ys then (addL m xs ys n, (0 : Int)) else ([], 5)).2]) ∧ FreshI w.heap.size w' q (if flowP (zMod m) N es xs ∧ flowP (zMod m) N es ys then (addL m xs ys n, (0 : Int)) else ([], 5)).1.length cap (if flowP (zMod m) N es xs ∧ flowP (zMod m) N es ys then (addL m xs ys n, (0 : Int)) else ([], 5)).1 ∧ Below w.heap.size w w' := by
  obtain ⟨g, hok, hlen, hvals⟩ := flCode_of h0
  obtain ⟨_, _, hlen2, hvals2⟩ := flCode_of h1
  have Hn := hid hn
  have Hr := hid hr
  have Hx := hid hx
  have Hrx := hid hrx
  have Hy := hid hy
  have Hry := hid hry
  have GG := hid g
  have H0 := hid h0
  have H1 := hid h1
  have HOK := hid hok
  have hm26 : 2 ≤ m ∧ m ≤ 6 := hok
  have HM := hid hm26
  have HVx := hid hvals
  have HVy := hid hvals2
  have HV := hid (show ∀ i, i < xs.length → -1000 ≤ eI xs i ∧ eI xs i ≤ 1000 from fun i hi => by have := hvals i hi; omega)
  have HW := hid (show ∀ i, i < ys.length → -1000 ≤ eI ys i ∧ eI ys i ≤ 1000 from fun i hi => by have := hvals2 i hi; omega)
  have e1 : IntKind.i64.wrap (m - 1) = m - 1 := IntWalk.i64_in _ (by omega)
  have hm00 : ¬ m = 0 := by omega
  have hn30 : n ≤ 30 := by have := isG_len g; omega
  have hn3 : 0 < n := by have := g.1.1; unfold okSize at this; omega
  obtain ⟨ab, ao, rfl, hrd⟩ : ∃ sb so, qa = some ⟨sb, so, none⟩ ∧ ReadsI w sb so xs := by
    rcases hrx with h | h
    · rw [h] at hx; simp at hx; omega
    · exact h
  obtain ⟨bb, bo, rfl, hrd2⟩ : ∃ sb so, qb = some ⟨sb, so, none⟩ ∧ ReadsI w sb so ys := by
    rcases hry with h | h
    · rw [h] at hy; simp at hy; omega
    · exact h
  have Hrd := hid hrd
  have Hrd2 := hid hrd2
  have hab : ab < w.heap.size := hrd.lt (by omega)
  have hbb : bb < w.heap.size := hrd2.lt (by omega)
  obtain ⟨j0, hj, hy0, hy1, hyy2⟩ := info_parts infoInt
  have Hj := hid hj
  clear hn hr hx hrx hy hry g h0 h1 hok hlen hvals hlen2 hvals2 hrd hrd2 hm26 hj
  by_cases hfx : flowP (zMod m) N es xs
  · by_cases hfy : flowP (zMod m) N es ys
    · rw [if_pos ⟨hfx, hfy⟩]
      dsimp only
      rw [addL_len]
      have HFx := hid hfx
      have HFy := hid hfy
      clear hfx hfy
      go_enter Tryd.func18, Tryd.ntmps18
      go_wp2_with fail
      refine (sFList_any N (some ⟨b, off, none⟩) n c es m (some ⟨ab, ao, none⟩) n da xs _ _ _ hm Hn.out (SeesE.on (.inr ⟨b, off, rfl, Hr.out⟩) (on_alloc _ _)) hm Hx.out (Hrx.out.on (on_alloc _ _))).mono ?_
      rw [H0.out]
      rintro e w2 ⟨rfl, hb2⟩
      have HB2 := hid (show Below w.heap.size w w2 from bfrom (on_alloc _ _) hb2)
      have hX2 := (Box.new w N (some ⟨b, off, none⟩) n c 31).on hb2
      have HX2 := hid hX2
      have hx2 := hX2.1
      have hy2 := hX2.2
      have hz2 : w.heap.size < w2.heap.size := hX2.lt
      clear hb2 hX2
      go_wp2_with fail
      refine (sFList_any N (some ⟨b, off, none⟩) n c es m (some ⟨bb, bo, none⟩) n db ys _ _ _ hm Hn.out (SeesE.on (.inr ⟨b, off, rfl, Hr.out⟩) HB2.out) hm Hy.out (Hry.out.on HB2.out)).mono ?_
      rw [H1.out]
      rintro e w3 ⟨rfl, hb3⟩
      have HB3 := hid (bfrom HB2.out hb3)
      have hX3 := HX2.out.on hb3
      have HX3 := hid hX3
      have hx3 := hX3.1
      have hy3 := hX3.2
      have hz3 : w.heap.size < w3.heap.size := hX3.lt
      clear hb3 hX3 hx2 hy2 hz2
      go_wp2_with fail
      refine (sFlow_any N b off n c da (some ⟨ab, ao, none⟩) es xs m _ Hn.out (Hr.out.on HB3.out) Hx.out (Hrx.out.on HB3.out) GG.out HV.out HOK.out).mono ?_
      rw [decide_eq_true HFx.out]
      rintro e w4 ⟨rfl, hb4⟩
      have HB4 := hid (bfrom HB3.out hb4)
      have hX4 := HX3.out.on hb4
      have hx4 := hX4.1
      have hy4 := hX4.2
      have hz4 : w.heap.size < w4.heap.size := hX4.lt
      clear hb4 hX4 hx3 hy3 hz3
      go_wp2_with fail
      refine (sFlow_any N b off n c db (some ⟨bb, bo, none⟩) es ys m _ Hn.out (Hr.out.on HB4.out) Hy.out (Hry.out.on HB4.out) GG.out HW.out HOK.out).mono ?_
      rw [decide_eq_true HFy.out]
      rintro e w5 ⟨rfl, hb5⟩
      have HB5 := hid (bfrom HB4.out hb5)
      clear hb5 hx4 hy4 hz4
      go_wp2
      go_loopw [12, 13] (fun out iv wr => ∃ (i cap : Nat) (q : Option Addr), i ≤ n ∧ out = .slice q i cap ∧ iv = .int .i64 i ∧ Hid (wr.ownsRow w5.heap.size 2 1 (.slice q i cap) i (intVals (addL m xs ys i))) ∧ Hid (Below w5.heap.size w5 wr)) (fun _ iv _ => n - (intOf iv).toNat)
      case atStart => exact ⟨0, 0, _, Nat.zero_le _, rfl, rfl, hid (OwnI.row (own_nil _ _ rfl) rfl (Nat.le_refl _)), hid (on_alloc _ _)⟩
      case round =>
        obtain ⟨i, cap, q, hi, rfl, rfl, hO, hB⟩ := hrel
        by_cases hlt : i < n
        · have HBw := hid (bfrom HB5.out hB.out)
          have hcx := Hrd.out.on HBw.out i (by have := Hx.out; omega)
          have hcy := Hrd2.out.on HBw.out i (by have := Hy.out; omega)
          have habw : ab < wr.heap.size := by have := HBw.out.size; omega
          have hbbw : bb < wr.heap.size := by have := HBw.out.size; omega
          obtain ⟨x, hxx⟩ : ∃ x, eI xs i = x := ⟨_, rfl⟩
          obtain ⟨y, hyy⟩ : ∃ y, eI ys i = y := ⟨_, rfl⟩
          rw [hxx] at hcx
          rw [hyy] at hcy
          have vx := HVx.out i (by have := Hx.out; omega)
          have vy := HVy.out i (by have := Hy.out; omega)
          rw [hxx] at vx
          rw [hyy] at vy
          have hM := HM.out
          have e3 : IntKind.i64.wrap (x + y) = x + y := IntWalk.i64_in _ (by omega)
          obtain ⟨v, hv⟩ : ∃ v, (x + y).tmod m = v := ⟨_, rfl⟩
          have hv2 : (x + y) % m = v := by rw [← hv]; exact (Int.tmod_eq_emod_of_nonneg (by omega)).symm
          have HV2 := hid (show (eI xs i + eI ys i).tmod m = v by rw [hxx, hyy]; exact hv)
          have HS5 := hid (show w.heap.size ≤ w5.heap.size from HB5.out.size)
          clear hxx hyy vx vy hM
          obtain ⟨wi, rfl⟩ : ∃ wi : World, wi = wr := ⟨_, rfl⟩
          have hrow : ∀ j', (Value.slice q i cap).ownBlock = some j' → w5.heap.size ≤ j' ∧ j' < wi.heap.size := hO.out.lt
          have ac : (Value.slice q i cap).ownBlock ≠ some ab := fun h => by have := (hrow _ h).1; have := HS5.out; omega
          have bc : (Value.slice q i cap).ownBlock ≠ some bb := fun h => by have := (hrow _ h).1; have := HS5.out; omega
          have hBs : w5.heap.size ≤ wi.heap.size := hB.out.size
          go_wp2
          go_region_held3 (fun w' => w'.cell? ⟨ab, ao + i, none⟩ = some (.int .i64 x) ∧ w'.cell? ⟨bb, bo + i, none⟩ = some (.int .i64 y))
            (first
              | go_keep
              | (go_split_ands
                 refine ⟨?_, ?_⟩
                 · (rw [hgrow.cell_far _ (by simp; omega) (Ne.symm ac)]; assumption)
                 · (rw [hgrow.cell_far _ (by simp; omega) (Ne.symm bc)]; assumption)))
            ((refine step_append_lies _ (by rfl) _ _ _ (by rfl) w5.heap.size 2 j0 _ 1 8 Tryd.underlying25 Hj.out hy0 hy1 hyy2 rfl (by decide) (.slice q i cap) i _ (by rfl) ((hO.out.alloc _).drew)
                ⟨wi.heap.size, 0, none⟩ 1 1 [.int .i64 v] (by rfl) (by rfl) (World.news_of_block (cs := #[.int .i64 v]) (t := 2) (fr := (0, 0)) (heap_alloc_new wi _)) (by simp [Value.oneCell'])
                (by decide) (by unfold maxLen; omega) (by omega) (by simp; omega) (wi.heap.size + 1) (by simp) ?_; intro gg cap' w1 hown1 hgrow hat hlt'))
          go_wp2
          go_roundw
          case rel =>
            refine ⟨i + 1, cap', some ⟨gg, 0, none⟩, by omega, rfl, by go_num, hid ?_, hid ?_⟩
            · rw [addL_succ, intVals_append, HV2.out]; exact hown1
            · exact ((hB.out.alloc hBs _).drew).grown hgrow (by simp; omega) (fun j' e => (hrow j' e).1)
          case measure => simp [intOf]; omega
        · obtain rfl : i = n := by omega
          go_wp2
          go_ret2
          exact ⟨q, cap, rfl, FreshI.less ⟨hO.out, addL_len _ _ _ _⟩ HB5.out.size, bfrom HB5.out hB.out⟩
    · rw [if_neg (fun h => hfy h.2)]
      have HFx := hid hfx
      have HFy := hid hfy
      clear hfx hfy
      go_enter Tryd.func18, Tryd.ntmps18
      go_wp2_with fail
      refine (sFList_any N (some ⟨b, off, none⟩) n c es m (some ⟨ab, ao, none⟩) n da xs _ _ _ hm Hn.out (SeesE.on (.inr ⟨b, off, rfl, Hr.out⟩) (on_alloc _ _)) hm Hx.out (Hrx.out.on (on_alloc _ _))).mono ?_
      rw [H0.out]
      rintro e w2 ⟨rfl, hb2⟩
      have HB2 := hid (show Below w.heap.size w w2 from bfrom (on_alloc _ _) hb2)
      have hX2 := (Box.new w N (some ⟨b, off, none⟩) n c 31).on hb2
      have HX2 := hid hX2
      have hx2 := hX2.1
      have hy2 := hX2.2
      have hz2 : w.heap.size < w2.heap.size := hX2.lt
      clear hb2 hX2
      go_wp2_with fail
      refine (sFList_any N (some ⟨b, off, none⟩) n c es m (some ⟨bb, bo, none⟩) n db ys _ _ _ hm Hn.out (SeesE.on (.inr ⟨b, off, rfl, Hr.out⟩) HB2.out) hm Hy.out (Hry.out.on HB2.out)).mono ?_
      rw [H1.out]
      rintro e w3 ⟨rfl, hb3⟩
      have HB3 := hid (bfrom HB2.out hb3)
      have hX3 := HX2.out.on hb3
      have HX3 := hid hX3
      have hx3 := hX3.1
      have hy3 := hX3.2
      have hz3 : w.heap.size < w3.heap.size := hX3.lt
      clear hb3 hX3 hx2 hy2 hz2
      go_wp2_with fail
      refine (sFlow_any N b off n c da (some ⟨ab, ao, none⟩) es xs m _ Hn.out (Hr.out.on HB3.out) Hx.out (Hrx.out.on HB3.out) GG.out HV.out HOK.out).mono ?_
      rw [decide_eq_true HFx.out]
      rintro e w4 ⟨rfl, hb4⟩
      have HB4 := hid (bfrom HB3.out hb4)
      have hX4 := HX3.out.on hb4
      have hx4 := hX4.1
      have hy4 := hX4.2
      have hz4 : w.heap.size < w4.heap.size := hX4.lt
      clear hb4 hX4 hx3 hy3 hz3
      go_wp2_with fail
      refine (sFlow_any N b off n c db (some ⟨bb, bo, none⟩) es ys m _ Hn.out (Hr.out.on HB4.out) Hy.out (Hry.out.on HB4.out) GG.out HW.out HOK.out).mono ?_
      rw [decide_eq_false HFy.out]
      rintro e w5 ⟨rfl, hb5⟩
      have HB5 := hid (bfrom HB4.out hb5)
      clear hb5 hx4 hy4 hz4
      go_wp2
      go_ret2
      exact ⟨none, 0, rfl, FreshI.nil _ _, HB5.out⟩
  · rw [if_neg (fun h => hfx h.1)]
    have HFx := hid hfx
    clear hfx
    go_enter Tryd.func18, Tryd.ntmps18
    go_wp2_with fail
    refine (sFList_any N (some ⟨b, off, none⟩) n c es m (some ⟨ab, ao, none⟩) n da xs _ _ _ hm Hn.out (SeesE.on (.inr ⟨b, off, rfl, Hr.out⟩) (on_alloc _ _)) hm Hx.out (Hrx.out.on (on_alloc _ _))).mono ?_
    rw [H0.out]
    rintro e w2 ⟨rfl, hb2⟩
    have HB2 := hid (show Below w.heap.size w w2 from bfrom (on_alloc _ _) hb2)
    have hX2 := (Box.new w N (some ⟨b, off, none⟩) n c 31).on hb2
    have HX2 := hid hX2
    have hx2 := hX2.1
    have hy2 := hX2.2
    have hz2 : w.heap.size < w2.heap.size := hX2.lt
    clear hb2 hX2
    go_wp2_with fail
    refine (sFList_any N (some ⟨b, off, none⟩) n c es m (some ⟨bb, bo, none⟩) n db ys _ _ _ hm Hn.out (SeesE.on (.inr ⟨b, off, rfl, Hr.out⟩) HB2.out) hm Hy.out (Hry.out.on HB2.out)).mono ?_
    rw [H1.out]
    rintro e w3 ⟨rfl, hb3⟩
    have HB3 := hid (bfrom HB2.out hb3)
    have hX3 := HX2.out.on hb3
    have HX3 := hid hX3
    have hx3 := hX3.1
    have hy3 := hX3.2
    have hz3 : w.heap.size < w3.heap.size := hX3.lt
    clear hb3 hX3 hx2 hy2 hz2
    go_wp2_with fail
    refine (sFlow_any N b off n c da (some ⟨ab, ao, none⟩) es xs m _ Hn.out (Hr.out.on HB3.out) Hx.out (Hrx.out.on HB3.out) GG.out HV.out HOK.out).mono ?_
    rw [decide_eq_false HFx.out]
    rintro e w4 ⟨rfl, hb4⟩
    have HB4 := hid (bfrom HB3.out hb4)
    clear hb4 hx3 hy3 hz3
    go_wp2
    go_ret2
    exact ⟨none, 0, rfl, FreshI.nil _ _, HB4.out⟩

theorem sAddFlows_any (s : Int) (p : Option Addr) (n c : Nat) (es : List (Int × Int)) (m : Int) (qa : Option Addr) (ka da : Nat) (xs : List Int) (qb : Option Addr) (kb db : Nat) (ys : List Int) (w : World) (hm : n ≤ 1048576) (hn : es.length = n) (hr : SeesE w p es) (hk9 : ka ≤ 1048576) (hx : xs.length = ka) (hrx : SeesI w qa xs) (hl9 : kb ≤ 1048576) (hy : ys.length = kb) (hry : SeesI w qb ys) :
    Calls Tryd.prog 18 #[.agg #[.int .i64 s, .slice p n c], .int .i64 m, .slice qa ka da, .slice qb kb db] w fun e' w' => ∃ q cap, e' = .returned (.tuple #[.slice q (fAddFlows s es m xs ys).1.length cap, .int .i64 (fAddFlows s es m xs ys).2]) ∧ FreshI w.heap.size w' q (fAddFlows s es m xs ys).1.length cap (fAddFlows s es m xs ys).1 ∧ Below w.heap.size w w' := by
  unfold fAddFlows
  by_cases h1 : flCode s es m 0 (m - 1) xs = 0
  · rw [if_pos h1]
    by_cases h2 : lstCode es 0 (m - 1) ys = 0
    · rw [if_pos h2]
      obtain ⟨g, hok, hl, _⟩ := flCode_of h1
      have h3 : flCode s es m 0 (m - 1) ys = 0 := by unfold flCode modCode; rw [if_pos g, if_pos hok, if_pos rfl, h2]
      obtain ⟨N, rfl⟩ : ∃ N : Nat, s = N := ⟨_, (Int.toNat_of_nonneg (by have := g.1.1.1; omega)).symm⟩
      rw [Int.toNat_natCast]
      obtain ⟨b, off, rfl, rd⟩ := isG_sees g hr
      obtain rfl : ka = n := by omega
      obtain rfl : kb = ka := by have := (lstCode_of h2).1; omega
      have h := sAdd_yes N b off kb c da db qa qb es m xs ys w hm hn rd hx hrx hy hry h1 h3
      rw [hx]
      exact h
    · rw [if_neg h2]
      exact (sAdd_second s p qa qb n c ka da kb db es m xs ys w hm hn hr hk9 hx hrx hl9 hy hry h1 h2).mono fun e w' ⟨he, hb⟩ => ⟨none, 0, he, FreshI.nil _ _, hb⟩
  · rw [if_neg h1]
    exact (sAdd_first s p qa qb n c ka da kb db es m xs w hm hn hr hk9 hx hrx h1).mono fun e w' ⟨he, hb⟩ => ⟨none, 0, he, FreshI.nil _ _, hb⟩

end Go.Proofs.YthncgpbgffbpgaaDoor
