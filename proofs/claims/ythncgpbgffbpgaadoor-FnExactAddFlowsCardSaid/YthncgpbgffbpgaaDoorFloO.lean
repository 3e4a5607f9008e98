/- AddFlows in the program. -/
import Derived.Test.YthncgpbgffbpgaaDoorFloL
namespace Go.Proofs.YthncgpbgffbpgaaDoor
open Go.RowKit Go.Shelf

def sumL (m : Int) (xs ys : List Int) (n k : Nat) : List Int := addL m xs ys k ++ List.replicate (n - k) 0
theorem sumL_len {m : Int} {xs ys : List Int} {n k : Nat} (hk : k ≤ n) : (sumL m xs ys n k).length = n := by
  unfold sumL
  rw [List.length_append, addL_len, List.length_replicate]
  omega
theorem sumL_step {m : Int} {xs ys : List Int} {n k : Nat} (hk : k < n) : (sumL m xs ys n k).set k ((eI xs k + eI ys k).tmod m) = sumL m xs ys n (k + 1) := by
  unfold sumL
  rw [List.set_append_right _ _ (by rw [addL_len]; omega), addL_len, Nat.sub_self, show n - k = (n - (k + 1)) + 1 by omega, List.replicate_succ, List.set_cons_zero]
  have h : addL m xs ys (k + 1) = addL m xs ys k ++ [(eI xs k + eI ys k).tmod m] := by
    unfold addL
    rw [List.range_succ, List.map_append]
    rfl
  rw [h, List.append_assoc]
  rfl
theorem sumL_end (m : Int) (xs ys : List Int) (n : Nat) : sumL m xs ys n n = addL m xs ys n := by
  unfold sumL
  rw [Nat.sub_self, List.replicate_zero, List.append_nil]
theorem sumL_zero (m : Int) (xs ys : List Int) (n : Nat) : sumL m xs ys n 0 = List.replicate n 0 := by
  unfold sumL addL
  simp

set_option maxRecDepth 100000 in
set_option maxHeartbeats 4000000 in
theorem iAdd_mod (s : Int) (p qa qb : Option Addr) (n c ka da kb db : Nat) (es : List (Int × Int)) (m : Int) (w : World) (hm : n ≤ 1048576) (hn : es.length = n) (hr : SeesE w p es) (h0 : ¬ modCode s es m = 0) :
    Calls Tryd.prog 19 #[.agg #[.int .i64 s, .slice p n c], .int .i64 m, .slice qa ka da, .slice qb kb db] w fun e' w' => e' = .returned (.tuple #[.slice none 0 0, .int .i64 (modCode s es m)]) ∧ Below w.heap.size w w' := by
  have Hn := hid hn
  have Hr := hid hr
  have H0 := hid h0
  obtain ⟨r, hR⟩ : ∃ r, modCode s es m = r := ⟨_, rfl⟩
  have h0' : (r != 0) = true := by rw [← hR]; simpa using h0
  rw [hR]
  have HR := hid hR
  clear hn hr h0 hR
  go_enter Tryd.func19, Tryd.ntmps19
  go_wp2_with fail
  refine (iVals_no s p _ n c 2 2 es m _ _ _ hm Hn.out ((Hr.out.on (on_alloc _ _)).on (on_alloc _ _)) H0.out).mono ?_
  rw [HR.out]
  rintro e w2 ⟨rfl, hb2⟩
  have hB2 : Below w.heap.size w w2 := bfrom (bfrom (on_alloc _ _) (on_alloc _ _)) hb2
  clear hb2
  go_wp2
  go_ret2
  exact ⟨rfl, hB2⟩

set_option maxRecDepth 100000 in
set_option maxHeartbeats 4000000 in
theorem iAdd_lst (s : Int) (p qa qb : Option Addr) (n c ka da kb db : Nat) (es : List (Int × Int)) (m : Int) (xs ys : List Int) (w : World) (hm : n ≤ 1048576) (hn : es.length = n) (hr : SeesE w p es) (hk9 : ka ≤ 1048576) (hx : xs.length = ka) (hrx : SeesI w qa xs) (hl9 : kb ≤ 1048576) (hy : ys.length = kb) (hry : SeesI w qb ys) (h0 : modCode s es m = 0) (h1 : ¬ (lstCode es 0 (m - 1) xs = 0 ∧ lstCode es 0 (m - 1) ys = 0)) :
    Calls Tryd.prog 19 #[.agg #[.int .i64 s, .slice p n c], .int .i64 m, .slice qa ka da, .slice qb kb db] w fun e' w' => e' = .returned (.tuple #[.slice none 0 0, .int .i64 2]) ∧ Below w.heap.size w w' := by
  have Hn := hid hn
  have Hr := hid hr
  have Hx := hid hx
  have Hrx := hid hrx
  have Hy := hid hy
  have Hry := hid hry
  have hmm := (modCode_of h0).2
  unfold okMod at hmm
  have e1 : IntKind.i64.wrap (m - 1) = m - 1 := IntWalk.i64_in _ (by omega)
  have HR := hid (show addCode s es m xs ys = 2 by unfold addCode; rw [if_pos h0, if_neg h1])
  clear hn hr hx hrx hy hry h0 h1
  go_enter Tryd.func19, Tryd.ntmps19
  go_wp2_with fail
  refine (iVals_two s p n c _ _ es m _ _ _ xs ys _ hm Hn.out ((Hr.out.on (on_alloc _ _)).on (on_alloc _ _)) (rows_two (by simp) Hx.out hk9 (Hrx.out.on (on_alloc _ _)) Hy.out hl9 (Hry.out.on (on_alloc _ _)))).mono ?_
  rw [HR.out]
  rintro e w2 ⟨rfl, hb2⟩
  have hB2 : Below w.heap.size w w2 := bfrom (bfrom (on_alloc _ _) (on_alloc _ _)) hb2
  clear hb2
  go_wp2
  go_ret2
  exact ⟨rfl, hB2⟩

set_option maxRecDepth 100000 in
set_option maxHeartbeats 8000000 in
theorem iAdd_yes (N b off n c da db : Nat) (qa qb : Option Addr) (es : List (Int × Int)) (m : Int) (xs ys : List Int) (pa : Addr) (w : World) (hm : n ≤ 1048576) (hn : es.length = n) (hr : ReadsE w b off es) (hx : xs.length = n) (hrx : SeesI w qa xs) (hy : ys.length = n) (hry : SeesI w qb ys) (h0 : flCode N es m 0 (m - 1) xs = 0) (h1 : lstCode es 0 (m - 1) ys = 0) (hg : w.cell? ⟨0, 0, none⟩ = some (.iface 104 (.pointer (some pa)))) :
    Calls Tryd.prog 19 #[.agg #[.int .i64 N, .slice (some ⟨b, off, none⟩) n c], .int .i64 m, .slice qa n da, .slice qb n db] w fun e' w' => ∃ q cap, e' = .returned (.tuple #[.slice q (if flowP (zMod m) N es xs ∧ flowP (zMod m) N es ys then (addL m xs ys n, (0 : Int)) else ([], 5)).1.length cap, .int .i64 (if flowP (zMod m) N es xs ∧ flowP (zMod m) N es ys then (addL m xs ys n, (0 : Int)) else ([], 5)).2]) ∧ FreshI w.heap.size w' q (if flowP (zMod m) N es xs ∧ flowP (zMod m) N es ys then (addL m xs ys n, (0 : Int)) else ([], 5)).1.length cap (if flowP (zMod m) N es xs ∧ flowP (zMod m) N es ys then (addL m xs ys n, (0 : Int)) else ([], 5)).1 ∧ Below w.heap.size w w' := by
  have hnil : ∀ w : World, (binOp BinOp.neq 48 .nilIface .nilIface).run Tryd.prog w = .ok (.bool false) w := fun _ => by kernel_rfl
  have hifc : ∀ w : World, (binOp BinOp.neq 48 (.iface 104 (.pointer (some pa))) .nilIface).run Tryd.prog w = .ok (.bool true) w := fun _ => by kernel_rfl
  obtain ⟨g, hok, hlen, hvals⟩ := flCode_of h0
  obtain ⟨hlen2, hvals2⟩ := lstCode_of h1
  have hm0 : modCode N es m = 0 := by unfold modCode; rw [if_pos g, if_pos hok]
  have hl0 : lstCode es 0 (m - 1) xs = 0 := by unfold lstCode; rw [if_pos ⟨hlen, hvals⟩]
  have HR := hid (show addCode N es m xs ys = 0 by unfold addCode; rw [if_pos hm0, if_pos ⟨hl0, h1⟩])
  have Hn := hid hn
  have Hr := hid hr
  have Hx := hid hx
  have Hrx := hid hrx
  have Hy := hid hy
  have Hry := hid hry
  have GG := hid g
  have hm26 : 2 ≤ m ∧ m ≤ 6 := hok
  have HM := hid hm26
  have HVx := hid hvals
  have HVy := hid hvals2
  have HV := hid (show ∀ i, i < xs.length → -1000 ≤ eI xs i ∧ eI xs i ≤ 1000 from fun i hi => by have := hvals i hi; omega)
  have HW := hid (show ∀ i, i < ys.length → -1000 ≤ eI ys i ∧ eI ys i ≤ 1000 from fun i hi => by have := hvals2 i hi; omega)
  have HG := hid hg
  have hg0 := World.block_lt_of_cell? _ _ hg
  have e1 : IntKind.i64.wrap (m - 1) = m - 1 := IntWalk.i64_in _ (by omega)
  have hn30 : n ≤ 30 := by have := isG_len g; omega
  have hn3 : 0 < n := by have := g.1.1; unfold okSize at this; omega
  obtain ⟨ab, ao, rfl, hrd⟩ : ∃ sb so, qa = some ⟨sb, so, none⟩ ∧ ReadsI w sb so xs := by
    rcases hrx with h | h
    · rw [h] at hx; simp at hx; omega
    · exact h
  obtain ⟨bb, bo, rfl, hrd2⟩ : ∃ sb so, qb = some ⟨sb, so, none⟩ ∧ ReadsI w sb so ys := by
    rcases hry with h | h
    · rw [h] at hy; simp at hy; omega
    · exact h
  have Hrd := hid hrd
  have Hrd2 := hid hrd2
  have hab : ab < w.heap.size := hrd.lt (by omega)
  have hbb : bb < w.heap.size := hrd2.lt (by omega)
  obtain ⟨j0, hj, hy0, hy1, hyy2⟩ := info_parts infoIr
  have Hj := hid hj
  obtain ⟨R, hRR⟩ : ∃ R, R = (if flowP (zMod m) N es xs ∧ flowP (zMod m) N es ys then (addL m xs ys n, (0 : Int)) else ([], 5)) := ⟨_, rfl⟩
  rw [← hRR]
  have HRR := hid hRR
  have eg := enters_of Tryd.func43 (by kernel_rfl) rfl
  have EG := hid eg
  clear hn hr hx hrx hy hry g h0 h1 hok hlen hvals hlen2 hvals2 hrd hrd2 hm26 hj hm0 hl0 hg hRR eg
  go_enter Tryd.func19, Tryd.ntmps19
  go_wp2_with fail
  refine (iVals_two N (some ⟨b, off, none⟩) n c _ _ es m _ _ _ xs ys _ hm Hn.out (SeesE.on (.inr ⟨b, off, rfl, Hr.out⟩) (bfrom (on_alloc _ _) (on_alloc _ _))) (rows_two (by simp) Hx.out hm (Hrx.out.on (on_alloc _ _)) Hy.out hm (Hry.out.on (on_alloc _ _)))).mono ?_
  rw [HR.out]
  rintro e w2 ⟨rfl, hb2⟩
  have HB2 := hid (show Below w.heap.size w w2 from bfrom (bfrom (on_alloc _ _) (on_alloc _ _)) hb2)
  have hX2 := ((Box.new w N (some ⟨b, off, none⟩) n c 31).on (on_alloc _ (.cells #[.slice (some ⟨ab, ao, none⟩) n da, .slice (some ⟨bb, bo, none⟩) n db] 25))).on hb2
  have HX2 := hid hX2
  clear hb2 hX2
  go_wp2_with fail
  refine (iKind_mod m _ HM.out).mono ?_
  rintro e w3 ⟨rfl, hc3, hb3⟩
  have HB3 := hid (bfrom HB2.out hb3)
  have hX3 := HX2.out.on hb3
  have HX3 := hid hX3
  have hx3 := hX3.1
  have hy3 := hX3.2
  have hz3 : w.heap.size < w3.heap.size := hX3.lt
  have HC3 := hid hc3
  clear hb3 hX3 hc3
  have HK4 := hid (heap_alloc_new w3 (.cells #[.int .i64 1, .int .i64 (m - 1), .func (.func 43) #[] #[.pointer (some ⟨w2.heap.size, 0, none⟩)]] 52))
  have HX4 := hid (HX3.out.on (on_alloc w3 (.cells #[.int .i64 1, .int .i64 (m - 1), .func (.func 43) #[] #[.pointer (some ⟨w2.heap.size, 0, none⟩)]] 52)))
  have HB4 := hid (bfrom HB3.out (on_alloc w3 (.cells #[.int .i64 1, .int .i64 (m - 1), .func (.func 43) #[] #[.pointer (some ⟨w2.heap.size, 0, none⟩)]] 52)))
  have HC4 := hid (((bcells (on_alloc w3 (.cells #[.int .i64 1, .int .i64 (m - 1), .func (.func 43) #[] #[.pointer (some ⟨w2.heap.size, 0, none⟩)]] 52))).1 _ _ (World.block_lt_of_cell? _ _ HC3.out)).trans HC3.out)
  have HZ4 := hid (show (w3.alloc (.cells #[.int .i64 1, .int .i64 (m - 1), .func (.func 43) #[] #[.pointer (some ⟨w2.heap.size, 0, none⟩)]] 52)).heap.size = w3.heap.size + 1 by simp)
  go_wp2_with fail
  clear hx3 hy3
  obtain ⟨w4, hw4⟩ : ∃ w4, w4 = w3.alloc (.cells #[.int .i64 1, .int .i64 (m - 1), .func (.func 43) #[] #[.pointer (some ⟨w2.heap.size, 0, none⟩)]] 52) := ⟨_, rfl⟩
  rw [← hw4] at HK4 HX4 HB4 HC4 HZ4 ⊢
  clear hw4
  have hst := iMod_stands w4 w2.heap.size m HM.out HC4.out
  have HST := hid hst
  have hca := iErr_any N b off n c da (some ⟨ab, ao, none⟩) es xs 1 (m - 1) 43 #[.pointer (some ⟨w2.heap.size, 0, none⟩)] (stM m) pa w4 Hn.out (Hr.out.on HB4.out) Hx.out (Hrx.out.on HB4.out) GG.out HV.out HST.out EG.out (((bcells HB4.out).1 _ _ hg0).trans HG.out)
  rw [z_mod] at hca
  have HCA := hid hca
  clear hst hca
  by_cases hfx : flowP (zMod m) N es xs
  · rw [if_pos hfx] at HCA
    have HFx := hid hfx
    clear hfx
    refine HCA.out.mono ?_
    rintro e w5 ⟨rfl, hb5⟩
    have HB5 := hid (bfrom HB4.out hb5)
    have HX5 := hid (HX4.out.on hb5)
    have HK5 := hid ((hb5.block w3.heap.size (by have := HZ4.out; omega)).trans HK4.out)
    have HST5 := hid (HST.out.on hb5)
    have hK5z : w3.heap.size < w5.heap.size := by have := hb5.size; have := HZ4.out; omega
    have hx5 := HX5.out.1
    have hy5 := HX5.out.2
    have hz5 : w.heap.size < w5.heap.size := HX5.out.lt
    have hk0 := cell_of_row w5 _ 0 _ _ _ HK5.out
    have hk1 := cell_of_row w5 _ 1 _ _ _ HK5.out
    have hk2 := cell_of_row w5 _ 2 _ _ _ HK5.out
    simp only [List.getElem?_toArray, List.getElem?_cons_zero, List.getElem?_cons_succ] at hk0 hk1 hk2
    clear hb5
    have hcb := iErr_any N b off n c db (some ⟨bb, bo, none⟩) es ys 1 (m - 1) 43 #[.pointer (some ⟨w2.heap.size, 0, none⟩)] (stM m) pa w5 Hn.out (Hr.out.on HB5.out) Hy.out (Hry.out.on HB5.out) GG.out HW.out HST5.out EG.out (((bcells HB5.out).1 _ _ hg0).trans HG.out)
    rw [z_mod] at hcb
    have HCB := hid hcb
    clear hcb
    by_cases hfy : flowP (zMod m) N es ys
    · rw [if_pos hfy] at HCB
      have HFy := hid hfy
      clear hfy
      rw [if_pos ⟨HFx.out, HFy.out⟩] at HRR
      go_wp2_with (first
        | (go_at_call 28; refine HCB.out.mono ?_; rintro e' w6 ⟨rfl, hb6⟩)
        | (at_make; refine wpList_make_full _ rfl _ _ 25 rfl w6.heap.size 2 j0 (.int .i64 0) 1 Tryd.underlying25 Hj.out hy0 hy1 _ _ _ _ n rfl rfl rfl rfl (by rw [hyy2]; omega) (by unfold maxLen; omega) (Nat.le_refl _) ?_; intro w7 hown hgrow))
      have Ho := hid (OwnI.made hown)
      have hB7 := (Below.refl w6.heap.size w6).grown hgrow (Nat.le_refl _) (fun k e => by cases e)
      have Hb7 := hid hB7
      have HB6 := hid (bfrom HB5.out hb6)
      have HK6 := hid ((hb6.block w3.heap.size hK5z).trans HK5.out)
      have HST6 := hid (HST5.out.on hb6)
      have hK6z : w3.heap.size < w6.heap.size := by have := hb6.size; omega
      clear hown hgrow hB7 hb6 hk0 hk1 hk2 hx5 hy5
      go_loopw [44] (fun iv wr => ∃ i : Nat, i ≤ n ∧ iv = .int .i64 i ∧ Hid (OwnI wr w6.heap.size n (sumL m xs ys n i)) ∧ Hid (Below w6.heap.size w6 wr)) (fun iv _ => n - (intOf iv).toNat)
      case atStart => exact ⟨0, Nat.zero_le _, rfl, hid (by rw [sumL_zero]; exact Ho.out), Hb7⟩
      case round =>
        obtain ⟨i, hi, rfl, hO, hB⟩ := hrel
        by_cases hlt : i < n
        · have HBw := hid (bfrom HB6.out hB.out)
          have hcx := Hrd.out.on HBw.out i (by have := Hx.out; omega)
          have hcy := Hrd2.out.on HBw.out i (by have := Hy.out; omega)
          have habw : ab < wr.heap.size := by have := HBw.out.size; omega
          have hbbw : bb < wr.heap.size := by have := HBw.out.size; omega
          have hkr := (hB.out.block w3.heap.size hK6z).trans HK6.out
          have hck := cell_of_row wr _ 2 _ _ _ hkr
          simp only [List.getElem?_toArray, List.getElem?_cons_zero, List.getElem?_cons_succ] at hck
          have hkz : w3.heap.size < wr.heap.size := by have := hB.out.size; omega
          obtain ⟨x, hxx⟩ : ∃ x, eI xs i = x := ⟨_, rfl⟩
          obtain ⟨y, hyy⟩ : ∃ y, eI ys i = y := ⟨_, rfl⟩
          rw [hxx] at hcx
          rw [hyy] at hcy
          have vx := HVx.out i (by have := Hx.out; omega)
          have vy := HVy.out i (by have := Hy.out; omega)
          rw [hxx] at vx
          rw [hyy] at vy
          have hM := HM.out
          have e3 : IntKind.i64.wrap (x + y) = x + y := IntWalk.i64_in _ (by omega)
          have hsv : stM m (x + y) = (x + y).tmod m := by
            have h1 : (x + y).tmod m = (x + y) % m := Int.tmod_eq_emod_of_nonneg (by omega)
            have h2 := Int.emod_nonneg (x + y) (show m ≠ 0 by omega)
            have h3 := Int.emod_lt_of_pos (x + y) (show 0 < m by omega)
            unfold stM
            rw [h1, Int.add_emod_right, Int.emod_eq_of_lt h2 h3]
          obtain ⟨v, hv⟩ : ∃ v, stM m (x + y) = v := ⟨_, rfl⟩
          have HV2 := hid (show (eI xs i + eI ys i).tmod m = v by rw [hxx, hyy, ← hsv]; exact hv)
          have HCALL := hid (show ∀ W, Below wr.heap.size wr W → Calls Tryd.prog 43 #[.int .i64 (x + y), .pointer (some ⟨w2.heap.size, 0, none⟩)] W fun e w' => e = .returned (.int .i64 v) ∧ Below W.heap.size W w' from fun W hW => by
            have h := HST6.out W (bfrom hB.out hW) (x + y) (by omega) (by omega)
            rw [hv] at h
            exact h)
          have hlen := sumL_len (m := m) (xs := xs) (ys := ys) (n := n) (k := i) (by omega)
          have hco := hO.out.cellI (i := i) (by rw [hlen]; exact hlt)
          have hfo := hO.out.free i
          have hgz := hO.out.lt
          have HLen := hid hlen
          have hw6 := HB6.out.size
          have ne1 : ¬ ab = w6.heap.size := by omega
          have ne2 : ¬ bb = w6.heap.size := by omega
          have ne3 : ¬ w3.heap.size = w6.heap.size := by omega
          have ne4 : ¬ w6.heap.size = ab := by omega
          have ne5 : ¬ w6.heap.size = bb := by omega
          have ne6 : ¬ w6.heap.size = w3.heap.size := by omega
          clear hxx hyy vx vy hM hsv hv hkr hlen hw6
          obtain ⟨wi, rfl⟩ : ∃ wi : World, wi = wr := ⟨_, rfl⟩
          go_wp2
          go_region_held3 (fun w' => w'.cell? ⟨ab, ao + i, none⟩ = some (.int .i64 x) ∧ w'.cell? ⟨bb, bo + i, none⟩ = some (.int .i64 y) ∧ w'.cell? ⟨w3.heap.size, 2, none⟩ = some (.func (.func 43) #[] #[.pointer (some ⟨w2.heap.size, 0, none⟩)])) (go_keep)
            ((refine (HCALL.out _ (by first | exact Below.refl _ _ | exact (Below.refl _ _).drew)).mono ?_; rintro e' w8 ⟨rfl, hb8⟩; have c1 := ((bcells hb8).1 _ _ habw).trans hcx; have c2 := ((bcells hb8).1 _ _ hbbw).trans hcy; have c3 := ((bcells hb8).1 _ _ hkz).trans hck; have c4 := ((bcells hb8).1 _ _ hgz).trans hco; have c5 := ((bcells hb8).2 _ _ hgz).trans hfo; have hb8' : Below wi.heap.size wi w8 := (by first | exact hb8 | exact bfrom (Below.refl _ _).drew hb8)))
          go_wp2
          go_roundw
          case rel =>
            refine ⟨i + 1, by omega, by go_num, hid ?_, hid ((hB.out.trans (hb8'.mono hB.out.size)).setCell (p := ⟨w6.heap.size, i, none⟩) (Nat.le_refl _) _)⟩
            rw [← sumL_step hlt, HV2.out]
            exact (hO.out.on hb8').set (by rw [HLen.out]; exact hlt) _
          case measure => simp [intOf]; omega
        · obtain rfl : i = n := by omega
          go_wp2
          go_ret2
          rw [sumL_end] at hO
          have h := HRR.out
          subst h
          dsimp only
          rw [addL_len]
          exact ⟨some ⟨w6.heap.size, 0, none⟩, i, rfl, FreshI.of_own hO.out (addL_len _ _ _ _) HB6.out.size, bfrom HB6.out hB.out⟩
    · rw [if_neg hfy] at HCB
      have HFy := hid hfy
      clear hfy
      rw [if_neg (fun h => HFy.out h.2)] at HRR
      go_wp2_with (go_at_call 28; refine HCB.out.mono ?_; rintro e' w6 ⟨rfl, hb6⟩)
      go_ret2
      have h := HRR.out
      subst h
      exact ⟨none, 0, rfl, FreshI.nil _ _, bfrom HB5.out hb6⟩
  · rw [if_neg hfx] at HCA
    have HFx := hid hfx
    clear hfx
    rw [if_neg (fun h => HFx.out h.1)] at HRR
    refine HCA.out.mono ?_
    rintro e w5 ⟨rfl, hb5⟩
    have HB5 := hid (bfrom HB4.out hb5)
    clear hb5
    go_wp2
    go_ret2
    have h := HRR.out
    subst h
    exact ⟨none, 0, rfl, FreshI.nil _ _, HB5.out⟩

theorem iAddFlows_any (s : Int) (p : Option Addr) (n c : Nat) (es : List (Int × Int)) (m : Int) (qa : Option Addr) (ka da : Nat) (xs : List Int) (qb : Option Addr) (kb db : Nat) (ys : List Int) (pa : Addr) (w : World) (hg : w.cell? ⟨0, 0, none⟩ = some (.iface 104 (.pointer (some pa)))) (hm : n ≤ 1048576) (hn : es.length = n) (hr : SeesE w p es) (hk9 : ka ≤ 1048576) (hx : xs.length = ka) (hrx : SeesI w qa xs) (hl9 : kb ≤ 1048576) (hy : ys.length = kb) (hry : SeesI w qb ys) :
    Calls Tryd.prog 19 #[.agg #[.int .i64 s, .slice p n c], .int .i64 m, .slice qa ka da, .slice qb kb db] w fun e' w' => ∃ q cap, e' = .returned (.tuple #[.slice q (fAddFlows s es m xs ys).1.length cap, .int .i64 (fAddFlows s es m xs ys).2]) ∧ FreshI w.heap.size w' q (fAddFlows s es m xs ys).1.length cap (fAddFlows s es m xs ys).1 ∧ Below w.heap.size w w' := by
  unfold fAddFlows
  by_cases h0 : modCode s es m = 0
  · by_cases h1 : flCode s es m 0 (m - 1) xs = 0
    · rw [if_pos h1]
      by_cases h2 : lstCode es 0 (m - 1) ys = 0
      · rw [if_pos h2]
        obtain ⟨g, _, hl, _⟩ := flCode_of h1
        obtain ⟨N, rfl⟩ : ∃ N : Nat, s = N := ⟨_, (Int.toNat_of_nonneg (by have := g.1.1.1; omega)).symm⟩
        rw [Int.toNat_natCast]
        obtain ⟨b, off, rfl, rd⟩ := isG_sees g hr
        obtain rfl : ka = n := by omega
        obtain rfl : kb = ka := by have := (lstCode_of h2).1; omega
        have h := iAdd_yes N b off kb c da db qa qb es m xs ys pa w hm hn rd hx hrx hy hry h1 h2 hg
        rw [hx]
        exact h
      · rw [if_neg h2]
        exact (iAdd_lst s p qa qb n c ka da kb db es m xs ys w hm hn hr hk9 hx hrx hl9 hy hry h0 (fun h => h2 h.2)).mono fun e w' ⟨he, hb⟩ => ⟨none, 0, he, FreshI.nil _ _, hb⟩
    · rw [if_neg h1]
      have h3 : ¬ lstCode es 0 (m - 1) xs = 0 := fun h => h1 (by unfold flCode; rw [if_pos h0, h])
      have h4 : flCode s es m 0 (m - 1) xs = 2 := by
        unfold flCode
        rw [if_pos h0]
        unfold lstCode at h3 ⊢
        split
        · rename_i h; rw [if_pos h] at h3; exact absurd rfl h3
        · rfl
      rw [h4]
      exact (iAdd_lst s p qa qb n c ka da kb db es m xs ys w hm hn hr hk9 hx hrx hl9 hy hry h0 (fun h => h3 h.1)).mono fun e w' ⟨he, hb⟩ => ⟨none, 0, he, FreshI.nil _ _, hb⟩
  · have h1 : ¬ flCode s es m 0 (m - 1) xs = 0 := fun h => h0 (by unfold flCode at h; rw [if_neg h0] at h; exact absurd h h0)
    rw [if_neg h1, flCode_no h0]
    exact (iAdd_mod s p qa qb n c ka da kb db es m w hm hn hr h0).mono fun e w' ⟨he, hb⟩ => ⟨none, 0, he, FreshI.nil _ _, hb⟩

end Go.Proofs.YthncgpbgffbpgaaDoor
