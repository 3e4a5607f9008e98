/- IsFlow, IsNowhereZero, IsWholeFlow in the program. -/
import Derived.Test.YthncgpbgffbpgaaDoorFloK
import Derived.Shelf.Abstract
namespace Go.Proofs.YthncgpbgffbpgaaDoor
open Go.RowKit Go.Shelf

theorem flCode_no {s m lo up : Int} {es : List (Int × Int)} {xs : List Int} (h : ¬ modCode s es m = 0) : flCode s es m lo up xs = modCode s es m := by unfold flCode; rw [if_neg h]

set_option maxRecDepth 100000 in
set_option maxHeartbeats 4000000 in
theorem iIsFlow_mod (s : Int) (p q : Option Addr) (n c k d : Nat) (es : List (Int × Int)) (m : Int) (w : World) (hm : n ≤ 1048576) (hn : es.length = n) (hr : SeesE w p es) (h0 : ¬ modCode s es m = 0) :
    Calls Tryd.prog 11 #[.agg #[.int .i64 s, .slice p n c], .int .i64 m, .slice q k d] w fun e' w' => e' = .returned (.tuple #[.bool false, .int .i64 (modCode s es m)]) ∧ Below w.heap.size w w' := by
  have Hn := hid hn
  have Hr := hid hr
  have H0 := hid h0
  obtain ⟨r, hR⟩ : ∃ r, modCode s es m = r := ⟨_, rfl⟩
  have h0' : (r != 0) = true := by rw [← hR]; simpa using h0
  rw [hR]
  have HR := hid hR
  clear hn hr h0 hR
  go_enter Tryd.func11, Tryd.ntmps11
  go_wp2_with fail
  refine (iVals_no s p _ n c 1 1 es m _ _ _ hm Hn.out ((Hr.out.on (on_alloc _ _)).on (on_alloc _ _)) H0.out).mono ?_
  rw [HR.out]
  rintro e w2 ⟨rfl, hb2⟩
  have hB2 : Below w.heap.size w w2 := bfrom (bfrom (on_alloc _ _) (on_alloc _ _)) hb2
  clear hb2
  go_wp2
  go_ret2
  exact ⟨rfl, hB2⟩

set_option maxRecDepth 100000 in
set_option maxHeartbeats 4000000 in
theorem iIsFlow_lst (s : Int) (p q : Option Addr) (n c k d : Nat) (es : List (Int × Int)) (m : Int) (xs : List Int) (w : World) (hm : n ≤ 1048576) (hn : es.length = n) (hr : SeesE w p es) (hk9 : k ≤ 1048576) (hx : xs.length = k) (hrx : SeesI w q xs) (h0 : modCode s es m = 0) (h1 : ¬ lstCode es 0 (m - 1) xs = 0) :
    Calls Tryd.prog 11 #[.agg #[.int .i64 s, .slice p n c], .int .i64 m, .slice q k d] w fun e' w' => e' = .returned (.tuple #[.bool false, .int .i64 (flCode s es m 0 (m - 1) xs)]) ∧ Below w.heap.size w w' := by
  have Hn := hid hn
  have Hr := hid hr
  have Hx := hid hx
  have Hrx := hid hrx
  have hmm := (modCode_of h0).2
  unfold okMod at hmm
  have e1 : IntKind.i64.wrap (m - 1) = m - 1 := IntWalk.i64_in _ (by omega)
  obtain ⟨r, hR⟩ : ∃ r, flCode s es m 0 (m - 1) xs = r := ⟨_, rfl⟩
  have h0' : (r != 0) = true := by rw [← hR]; unfold flCode; rw [if_pos h0]; simpa using h1
  rw [hR]
  have HR := hid hR
  clear hn hr hx hrx h0 h1 hR
  go_enter Tryd.func11, Tryd.ntmps11
  go_wp2_with fail
  refine (iVals_one s p q n c k d _ es m _ _ xs _ hm Hn.out ((Hr.out.on (on_alloc _ _)).on (on_alloc _ _)) (rows_one (by simp) Hx.out hk9 (Hrx.out.on (on_alloc _ _)))).mono ?_
  rw [HR.out]
  rintro e w2 ⟨rfl, hb2⟩
  have hB2 : Below w.heap.size w w2 := bfrom (bfrom (on_alloc _ _) (on_alloc _ _)) hb2
  clear hb2
  go_wp2
  go_ret2
  exact ⟨rfl, hB2⟩

set_option maxRecDepth 100000 in
set_option maxHeartbeats 8000000 in
theorem iIsFlow_yes (N b off n c d : Nat) (q : Option Addr) (es : List (Int × Int)) (m : Int) (xs : List Int) (pa : Addr) (w : World) (hm : n ≤ 1048576) (hn : es.length = n) (hr : ReadsE w b off es) (hx : xs.length = n) (hrx : SeesI w q xs) (h0 : flCode N es m 0 (m - 1) xs = 0) (hg : w.cell? ⟨0, 0, none⟩ = some (.iface 104 (.pointer (some pa)))) :
    Calls Tryd.prog 11 #[.agg #[.int .i64 N, .slice (some ⟨b, off, none⟩) n c], .int .i64 m, .slice q n d] w fun e' w' => e' = .returned (.tuple #[.bool (decide (flowP (zMod m) N es xs)), .int .i64 0]) ∧ Below w.heap.size w w' := by
  have hnil : ∀ w : World, (binOp BinOp.eql 48 .nilIface .nilIface).run Tryd.prog w = .ok (.bool true) w := fun _ => by kernel_rfl
  have hifc : ∀ w : World, (binOp BinOp.eql 48 (.iface 104 (.pointer (some pa))) .nilIface).run Tryd.prog w = .ok (.bool false) w := fun _ => by kernel_rfl
  obtain ⟨g, hok, hlen, hvals⟩ := flCode_of h0
  unfold okMod at hok
  have Hn := hid hn
  have Hr := hid hr
  have Hx := hid hx
  have Hrx := hid hrx
  have GG := hid g
  have H0 := hid h0
  have HOK := hid hok
  have HV := hid (show ∀ i, i < xs.length → -1000 ≤ eI xs i ∧ eI xs i ≤ 1000 from fun i hi => by have := hvals i hi; omega)
  have HG := hid hg
  have hg0 := World.block_lt_of_cell? _ _ hg
  have e1 : IntKind.i64.wrap (m - 1) = m - 1 := IntWalk.i64_in _ (by omega)
  obtain ⟨r, hR⟩ : ∃ r, r = decide (flowP (zMod m) N es xs) := ⟨_, rfl⟩
  rw [← hR]
  have HR := hid hR
  clear hn hr hx hrx g h0 hok hlen hvals hg hR
  go_enter Tryd.func11, Tryd.ntmps11
  go_wp2_with fail
  refine (iVals_one N (some ⟨b, off, none⟩) q n c n d _ es m _ _ xs _ hm Hn.out (SeesE.on (.inr ⟨b, off, rfl, Hr.out⟩) (bfrom (on_alloc _ _) (on_alloc _ _))) (rows_one (by simp) Hx.out hm (Hrx.out.on (on_alloc _ _)))).mono ?_
  rw [H0.out]
  rintro e w2 ⟨rfl, hb2⟩
  have HB2 := hid (show Below w.heap.size w w2 from bfrom (bfrom (on_alloc _ _) (on_alloc _ _)) hb2)
  have hX2 := ((Box.new w N (some ⟨b, off, none⟩) n c 31).on (on_alloc _ (.cells #[.slice q n d] 25))).on hb2
  have hx2 := hX2.1
  have hy2 := hX2.2
  have hz2 : w.heap.size < w2.heap.size := hX2.lt
  clear hb2 hX2
  by_cases hf : flowP (zMod m) N es xs
  · have HF := hid hf
    clear hf
    go_upto_region 4 with fail
    go_region_held3 (fun w' => w'.cell? ⟨w.heap.size, 0, none⟩ = some (.int .i64 N) ∧ w'.cell? ⟨w.heap.size, 1, none⟩ = some (.slice (some ⟨b, off, none⟩) n c)) (go_keep) (first
      | (go_at_call 29; refine (iKind_mod m _ HOK.out).mono ?_; rintro e' w4 ⟨rfl, hc4, hb4⟩; have hx4 := ((bcells hb4).1 _ _ hz2).trans hx2; have hy4 := ((bcells hb4).1 _ _ hz2).trans hy2; have hb4' : Below w2.heap.size w2 w4 := bfrom (Below.refl _ _).drew hb4; have hz4 : w.heap.size < w4.heap.size := (by have := hb4'.size; omega); have HB4 := hid (bfrom HB2.out hb4'))
      | (go_at_call 28; refine (iErr_any N b off n c d q es xs 1 (m - 1) 43 _ (stM m) pa _ Hn.out (Hr.out.on HB4.out) Hx.out (Hrx.out.on HB4.out) GG.out HV.out (iMod_stands _ _ m HOK.out hc4) (enters_of Tryd.func43 (by kernel_rfl) rfl) (((bcells HB4.out).1 _ _ hg0).trans HG.out)).mono ?_; rw [z_mod, if_pos HF.out]; rintro e' w5 ⟨rfl, hb5⟩; have hx5 := ((bcells hb5).1 _ _ hz4).trans hx4; have hy5 := ((bcells hb5).1 _ _ hz4).trans hy4; have hb5' := bfrom HB4.out hb5))
    all_goals
      go_wp2_with fail
      go_ret2
      refine ⟨?_, by first | exact hb5' | exact bdn.mpr hb5'⟩
      rw [HR.out, decide_eq_true HF.out]; first | rfl | simp
  · have HF := hid hf
    clear hf
    go_upto_region 4 with fail
    go_region_held3 (fun w' => w'.cell? ⟨w.heap.size, 0, none⟩ = some (.int .i64 N) ∧ w'.cell? ⟨w.heap.size, 1, none⟩ = some (.slice (some ⟨b, off, none⟩) n c)) (go_keep) (first
      | (go_at_call 29; refine (iKind_mod m _ HOK.out).mono ?_; rintro e' w4 ⟨rfl, hc4, hb4⟩; have hx4 := ((bcells hb4).1 _ _ hz2).trans hx2; have hy4 := ((bcells hb4).1 _ _ hz2).trans hy2; have hb4' : Below w2.heap.size w2 w4 := bfrom (Below.refl _ _).drew hb4; have hz4 : w.heap.size < w4.heap.size := (by have := hb4'.size; omega); have HB4 := hid (bfrom HB2.out hb4'))
      | (go_at_call 28; refine (iErr_any N b off n c d q es xs 1 (m - 1) 43 _ (stM m) pa _ Hn.out (Hr.out.on HB4.out) Hx.out (Hrx.out.on HB4.out) GG.out HV.out (iMod_stands _ _ m HOK.out hc4) (enters_of Tryd.func43 (by kernel_rfl) rfl) (((bcells HB4.out).1 _ _ hg0).trans HG.out)).mono ?_; rw [z_mod, if_neg HF.out]; rintro e' w5 ⟨rfl, hb5⟩; have hx5 := ((bcells hb5).1 _ _ hz4).trans hx4; have hy5 := ((bcells hb5).1 _ _ hz4).trans hy4; have hb5' := bfrom HB4.out hb5))
    all_goals
      go_wp2_with fail
      go_ret2
      refine ⟨?_, by first | exact hb5' | exact bdn.mpr hb5'⟩
      rw [HR.out, decide_eq_false HF.out]; first | rfl | simp

set_option maxRecDepth 100000 in
set_option maxHeartbeats 4000000 in
theorem iIsNowhereZero_mod (s : Int) (p q : Option Addr) (n c k d : Nat) (es : List (Int × Int)) (m : Int) (w : World) (hm : n ≤ 1048576) (hn : es.length = n) (hr : SeesE w p es) (h0 : ¬ modCode s es m = 0) :
    Calls Tryd.prog 15 #[.agg #[.int .i64 s, .slice p n c], .int .i64 m, .slice q k d] w fun e' w' => e' = .returned (.tuple #[.bool false, .int .i64 (modCode s es m)]) ∧ Below w.heap.size w w' := by
  have Hn := hid hn
  have Hr := hid hr
  have H0 := hid h0
  obtain ⟨r, hR⟩ : ∃ r, modCode s es m = r := ⟨_, rfl⟩
  have h0' : (r != 0) = true := by rw [← hR]; simpa using h0
  rw [hR]
  have HR := hid hR
  clear hn hr h0 hR
  go_enter Tryd.func15, Tryd.ntmps15
  go_wp2_with fail
  refine (iVals_no s p _ n c 1 1 es m _ _ _ hm Hn.out ((Hr.out.on (on_alloc _ _)).on (on_alloc _ _)) H0.out).mono ?_
  rw [HR.out]
  rintro e w2 ⟨rfl, hb2⟩
  have hB2 : Below w.heap.size w w2 := bfrom (bfrom (on_alloc _ _) (on_alloc _ _)) hb2
  clear hb2
  go_wp2
  go_ret2
  exact ⟨rfl, hB2⟩

set_option maxRecDepth 100000 in
set_option maxHeartbeats 4000000 in
theorem iIsNowhereZero_lst (s : Int) (p q : Option Addr) (n c k d : Nat) (es : List (Int × Int)) (m : Int) (xs : List Int) (w : World) (hm : n ≤ 1048576) (hn : es.length = n) (hr : SeesE w p es) (hk9 : k ≤ 1048576) (hx : xs.length = k) (hrx : SeesI w q xs) (h0 : modCode s es m = 0) (h1 : ¬ lstCode es 0 (m - 1) xs = 0) :
    Calls Tryd.prog 15 #[.agg #[.int .i64 s, .slice p n c], .int .i64 m, .slice q k d] w fun e' w' => e' = .returned (.tuple #[.bool false, .int .i64 (flCode s es m 0 (m - 1) xs)]) ∧ Below w.heap.size w w' := by
  have Hn := hid hn
  have Hr := hid hr
  have Hx := hid hx
  have Hrx := hid hrx
  have hmm := (modCode_of h0).2
  unfold okMod at hmm
  have e1 : IntKind.i64.wrap (m - 1) = m - 1 := IntWalk.i64_in _ (by omega)
  obtain ⟨r, hR⟩ : ∃ r, flCode s es m 0 (m - 1) xs = r := ⟨_, rfl⟩
  have h0' : (r != 0) = true := by rw [← hR]; unfold flCode; rw [if_pos h0]; simpa using h1
  rw [hR]
  have HR := hid hR
  clear hn hr hx hrx h0 h1 hR
  go_enter Tryd.func15, Tryd.ntmps15
  go_wp2_with fail
  refine (iVals_one s p q n c k d _ es m _ _ xs _ hm Hn.out ((Hr.out.on (on_alloc _ _)).on (on_alloc _ _)) (rows_one (by simp) Hx.out hk9 (Hrx.out.on (on_alloc _ _)))).mono ?_
  rw [HR.out]
  rintro e w2 ⟨rfl, hb2⟩
  have hB2 : Below w.heap.size w w2 := bfrom (bfrom (on_alloc _ _) (on_alloc _ _)) hb2
  clear hb2
  go_wp2
  go_ret2
  exact ⟨rfl, hB2⟩

set_option maxRecDepth 100000 in
set_option maxHeartbeats 8000000 in
theorem iIsNowhereZero_yes (N b off n c d : Nat) (q : Option Addr) (es : List (Int × Int)) (m : Int) (xs : List Int) (pa : Addr) (w : World) (hm : n ≤ 1048576) (hn : es.length = n) (hr : ReadsE w b off es) (hx : xs.length = n) (hrx : SeesI w q xs) (h0 : flCode N es m 0 (m - 1) xs = 0) (hg : w.cell? ⟨0, 0, none⟩ = some (.iface 104 (.pointer (some pa)))) :
    Calls Tryd.prog 15 #[.agg #[.int .i64 N, .slice (some ⟨b, off, none⟩) n c], .int .i64 m, .slice q n d] w fun e' w' => e' = .returned (.tuple #[.bool (decide (hasP 1 (m - 1) xs ∧ flowP (zMod m) N es xs)), .int .i64 0]) ∧ Below w.heap.size w w' := by
  have hnil : ∀ w : World, (binOp BinOp.eql 48 .nilIface .nilIface).run Tryd.prog w = .ok (.bool true) w := fun _ => by kernel_rfl
  have hifc : ∀ w : World, (binOp BinOp.eql 48 (.iface 104 (.pointer (some pa))) .nilIface).run Tryd.prog w = .ok (.bool false) w := fun _ => by kernel_rfl
  obtain ⟨g, hok, hlen, hvals⟩ := flCode_of h0
  unfold okMod at hok
  have Hn := hid hn
  have Hr := hid hr
  have Hx := hid hx
  have Hrx := hid hrx
  have GG := hid g
  have H0 := hid h0
  have HOK := hid hok
  have HV := hid (show ∀ i, i < xs.length → -1000 ≤ eI xs i ∧ eI xs i ≤ 1000 from fun i hi => by have := hvals i hi; omega)
  have HG := hid hg
  have hg0 := World.block_lt_of_cell? _ _ hg
  have e1 : IntKind.i64.wrap (m - 1) = m - 1 := IntWalk.i64_in _ (by omega)
  obtain ⟨r, hR⟩ : ∃ r, r = decide (hasP 1 (m - 1) xs ∧ flowP (zMod m) N es xs) := ⟨_, rfl⟩
  rw [← hR]
  have HR := hid hR
  clear hn hr hx hrx g h0 hok hlen hvals hg hR
  go_enter Tryd.func15, Tryd.ntmps15
  go_wp2_with fail
  refine (iVals_one N (some ⟨b, off, none⟩) q n c n d _ es m _ _ xs _ hm Hn.out (SeesE.on (.inr ⟨b, off, rfl, Hr.out⟩) (bfrom (on_alloc _ _) (on_alloc _ _))) (rows_one (by simp) Hx.out hm (Hrx.out.on (on_alloc _ _)))).mono ?_
  rw [H0.out]
  rintro e w2 ⟨rfl, hb2⟩
  have HB2 := hid (show Below w.heap.size w w2 from bfrom (bfrom (on_alloc _ _) (on_alloc _ _)) hb2)
  have hX2 := ((Box.new w N (some ⟨b, off, none⟩) n c 31).on (on_alloc _ (.cells #[.slice q n d] 25))).on hb2
  have hx2 := hX2.1
  have hy2 := hX2.2
  have hz2 : w.heap.size < w2.heap.size := hX2.lt
  clear hb2 hX2
  go_upto_region 4 with fail
  go_region_held3 (fun w' => w'.cell? ⟨w.heap.size, 0, none⟩ = some (.int .i64 N) ∧ w'.cell? ⟨w.heap.size, 1, none⟩ = some (.slice (some ⟨b, off, none⟩) n c)) (go_keep) (first
    | (go_at_call 29; refine (iKind_mod m _ HOK.out).mono ?_; rintro e' w4 ⟨rfl, hc4, hb4⟩; have hx4 := ((bcells hb4).1 _ _ hz2).trans hx2; have hy4 := ((bcells hb4).1 _ _ hz2).trans hy2; have hb4' : Below w2.heap.size w2 w4 := bfrom (Below.refl _ _).drew hb4; have hz4 : w.heap.size < w4.heap.size := (by have := hb4'.size; omega); have HB4 := hid (bfrom HB2.out hb4'))
    | (go_at_call 31; refine (iFlowOf_any N b off n c d q es xs 1 (m - 1) 43 _ (stM m) pa _ Hn.out (Hr.out.on HB4.out) Hx.out (Hrx.out.on HB4.out) GG.out HV.out (iMod_stands _ _ m HOK.out hc4) (enters_of Tryd.func43 (by kernel_rfl) rfl) (((bcells HB4.out).1 _ _ hg0).trans HG.out)).mono ?_; rw [z_mod, ← HR.out]; rintro e' w5 ⟨rfl, hb5⟩; have hx5 := ((bcells hb5).1 _ _ hz4).trans hx4; have hy5 := ((bcells hb5).1 _ _ hz4).trans hy4; have hb5' := bfrom HB4.out hb5))
  all_goals
    go_wp2_with fail
    go_ret2
    refine ⟨?_, by first | exact hb5' | exact bdn.mpr hb5'⟩
    first | rfl | simp

set_option maxRecDepth 100000 in
set_option maxHeartbeats 4000000 in
theorem iIsWholeFlow_mod (s : Int) (p q : Option Addr) (n c k d : Nat) (es : List (Int × Int)) (m : Int) (w : World) (hm : n ≤ 1048576) (hn : es.length = n) (hr : SeesE w p es) (h0 : ¬ modCode s es m = 0) :
    Calls Tryd.prog 17 #[.agg #[.int .i64 s, .slice p n c], .int .i64 m, .slice q k d] w fun e' w' => e' = .returned (.tuple #[.bool false, .int .i64 (modCode s es m)]) ∧ Below w.heap.size w w' := by
  have Hn := hid hn
  have Hr := hid hr
  have H0 := hid h0
  obtain ⟨r, hR⟩ : ∃ r, modCode s es m = r := ⟨_, rfl⟩
  have h0' : (r != 0) = true := by rw [← hR]; simpa using h0
  rw [hR]
  have HR := hid hR
  clear hn hr h0 hR
  go_enter Tryd.func17, Tryd.ntmps17
  go_wp2_with fail
  refine (iVals_no s p _ n c 1 1 es m _ _ _ hm Hn.out ((Hr.out.on (on_alloc _ _)).on (on_alloc _ _)) H0.out).mono ?_
  rw [HR.out]
  rintro e w2 ⟨rfl, hb2⟩
  have hB2 : Below w.heap.size w w2 := bfrom (bfrom (on_alloc _ _) (on_alloc _ _)) hb2
  clear hb2
  go_wp2
  go_ret2
  exact ⟨rfl, hB2⟩

set_option maxRecDepth 100000 in
set_option maxHeartbeats 4000000 in
theorem iIsWholeFlow_lst (s : Int) (p q : Option Addr) (n c k d : Nat) (es : List (Int × Int)) (m : Int) (xs : List Int) (w : World) (hm : n ≤ 1048576) (hn : es.length = n) (hr : SeesE w p es) (hk9 : k ≤ 1048576) (hx : xs.length = k) (hrx : SeesI w q xs) (h0 : modCode s es m = 0) (h1 : ¬ lstCode es (-1000) 1000 xs = 0) :
    Calls Tryd.prog 17 #[.agg #[.int .i64 s, .slice p n c], .int .i64 m, .slice q k d] w fun e' w' => e' = .returned (.tuple #[.bool false, .int .i64 (flCode s es m (-1000) 1000 xs)]) ∧ Below w.heap.size w w' := by
  have Hn := hid hn
  have Hr := hid hr
  have Hx := hid hx
  have Hrx := hid hrx
  have hmm := (modCode_of h0).2
  unfold okMod at hmm
  have e1 : IntKind.i64.wrap (m - 1) = m - 1 := IntWalk.i64_in _ (by omega)
  obtain ⟨r, hR⟩ : ∃ r, flCode s es m (-1000) 1000 xs = r := ⟨_, rfl⟩
  have h0' : (r != 0) = true := by rw [← hR]; unfold flCode; rw [if_pos h0]; simpa using h1
  rw [hR]
  have HR := hid hR
  clear hn hr hx hrx h0 h1 hR
  go_enter Tryd.func17, Tryd.ntmps17
  go_wp2_with fail
  refine (iVals_one s p q n c k d _ es m _ _ xs _ hm Hn.out ((Hr.out.on (on_alloc _ _)).on (on_alloc _ _)) (rows_one (by simp) Hx.out hk9 (Hrx.out.on (on_alloc _ _)))).mono ?_
  rw [HR.out]
  rintro e w2 ⟨rfl, hb2⟩
  have hB2 : Below w.heap.size w w2 := bfrom (bfrom (on_alloc _ _) (on_alloc _ _)) hb2
  clear hb2
  go_wp2
  go_ret2
  exact ⟨rfl, hB2⟩

set_option maxRecDepth 100000 in
set_option maxHeartbeats 8000000 in
theorem iIsWholeFlow_yes (N b off n c d : Nat) (q : Option Addr) (es : List (Int × Int)) (m : Int) (xs : List Int) (pa : Addr) (w : World) (hm : n ≤ 1048576) (hn : es.length = n) (hr : ReadsE w b off es) (hx : xs.length = n) (hrx : SeesI w q xs) (h0 : flCode N es m (-1000) 1000 xs = 0) (hg : w.cell? ⟨0, 0, none⟩ = some (.iface 104 (.pointer (some pa)))) :
    Calls Tryd.prog 17 #[.agg #[.int .i64 N, .slice (some ⟨b, off, none⟩) n c], .int .i64 m, .slice q n d] w fun e' w' => e' = .returned (.tuple #[.bool (decide (hasP (1 - m) (m - 1) xs ∧ flowP zAll N es xs)), .int .i64 0]) ∧ Below w.heap.size w w' := by
  have hnil : ∀ w : World, (binOp BinOp.eql 48 .nilIface .nilIface).run Tryd.prog w = .ok (.bool true) w := fun _ => by kernel_rfl
  have hifc : ∀ w : World, (binOp BinOp.eql 48 (.iface 104 (.pointer (some pa))) .nilIface).run Tryd.prog w = .ok (.bool false) w := fun _ => by kernel_rfl
  obtain ⟨g, hok, hlen, hvals⟩ := flCode_of h0
  unfold okMod at hok
  have Hn := hid hn
  have Hr := hid hr
  have Hx := hid hx
  have Hrx := hid hrx
  have GG := hid g
  have H0 := hid h0
  have HOK := hid hok
  have HV := hid (show ∀ i, i < xs.length → -1000 ≤ eI xs i ∧ eI xs i ≤ 1000 from fun i hi => by have := hvals i hi; omega)
  have HG := hid hg
  have hg0 := World.block_lt_of_cell? _ _ hg
  have e1 : IntKind.i64.wrap (m - 1) = m - 1 := IntWalk.i64_in _ (by omega)
  obtain ⟨r, hR⟩ : ∃ r, r = decide (hasP (1 - m) (m - 1) xs ∧ flowP zAll N es xs) := ⟨_, rfl⟩
  rw [← hR]
  have HR := hid hR
  clear hn hr hx hrx g h0 hok hlen hvals hg hR
  go_enter Tryd.func17, Tryd.ntmps17
  go_wp2_with fail
  refine (iVals_one N (some ⟨b, off, none⟩) q n c n d _ es m _ _ xs _ hm Hn.out (SeesE.on (.inr ⟨b, off, rfl, Hr.out⟩) (bfrom (on_alloc _ _) (on_alloc _ _))) (rows_one (by simp) Hx.out hm (Hrx.out.on (on_alloc _ _)))).mono ?_
  rw [H0.out]
  rintro e w2 ⟨rfl, hb2⟩
  have HB2 := hid (show Below w.heap.size w w2 from bfrom (bfrom (on_alloc _ _) (on_alloc _ _)) hb2)
  have hX2 := ((Box.new w N (some ⟨b, off, none⟩) n c 31).on (on_alloc _ (.cells #[.slice q n d] 25))).on hb2
  have hx2 := hX2.1
  have hy2 := hX2.2
  have hz2 : w.heap.size < w2.heap.size := hX2.lt
  clear hb2 hX2
  go_upto_region 4 with fail
  go_region_held3 (fun w' => w'.cell? ⟨w.heap.size, 0, none⟩ = some (.int .i64 N) ∧ w'.cell? ⟨w.heap.size, 1, none⟩ = some (.slice (some ⟨b, off, none⟩) n c)) (go_keep) (first
    | (go_at_call 34; refine (iKind_whole m _ HOK.out).mono ?_; rintro e' w4 ⟨rfl, hb4⟩; have hx4 := ((bcells hb4).1 _ _ hz2).trans hx2; have hy4 := ((bcells hb4).1 _ _ hz2).trans hy2; have hb4' : Below w2.heap.size w2 w4 := bfrom (Below.refl _ _).drew hb4; have hz4 : w.heap.size < w4.heap.size := (by have := hb4'.size; omega); have HB4 := hid (bfrom HB2.out hb4'))
    | (go_at_call 31; refine (iFlowOf_any N b off n c d q es xs (1 - m) (m - 1) 46 #[] (fun x => x) pa _ Hn.out (Hr.out.on HB4.out) Hx.out (Hrx.out.on HB4.out) GG.out HV.out (iWhole_stands _) (enters_of Tryd.func46 (by kernel_rfl) rfl) (((bcells HB4.out).1 _ _ hg0).trans HG.out)).mono ?_; rw [z_all, ← HR.out]; rintro e' w5 ⟨rfl, hb5⟩; have hx5 := ((bcells hb5).1 _ _ hz4).trans hx4; have hy5 := ((bcells hb5).1 _ _ hz4).trans hy4; have hb5' := bfrom HB4.out hb5))
  all_goals
    go_wp2_with fail
    go_ret2
    refine ⟨?_, by first | exact hb5' | exact bdn.mpr hb5'⟩
    first | rfl | simp

theorem iIsFlow_any (s : Int) (p : Option Addr) (n c : Nat) (es : List (Int × Int)) (m : Int) (q : Option Addr) (k d : Nat) (xs : List Int) (pa : Addr) (w : World) (hg : w.cell? ⟨0, 0, none⟩ = some (.iface 104 (.pointer (some pa)))) (hm : n ≤ 1048576) (hn : es.length = n) (hr : SeesE w p es) (hk9 : k ≤ 1048576) (hx : xs.length = k) (hrx : SeesI w q xs) :
    Calls Tryd.prog 11 #[.agg #[.int .i64 s, .slice p n c], .int .i64 m, .slice q k d] w fun e' w' => e' = .returned (.tuple #[.bool (fIsFlow s es m xs).1, .int .i64 (fIsFlow s es m xs).2]) ∧ Below w.heap.size w w' := by
  unfold fIsFlow
  by_cases h0 : flCode s es m 0 (m - 1) xs = 0
  · rw [if_pos h0]
    obtain ⟨g, _, hl, _⟩ := flCode_of h0
    obtain ⟨N, rfl⟩ : ∃ N : Nat, s = N := ⟨_, (Int.toNat_of_nonneg (by have := g.1.1.1; omega)).symm⟩
    rw [Int.toNat_natCast]
    obtain ⟨b, off, rfl, rd⟩ := isG_sees g hr
    obtain rfl : k = n := by omega
    exact iIsFlow_yes N b off k c d q es m xs pa w hm hn rd hx hrx h0 hg
  · rw [if_neg h0]
    by_cases h1 : modCode s es m = 0
    · exact iIsFlow_lst s p q n c k d es m xs w hm hn hr hk9 hx hrx h1 (fun h => h0 (by unfold flCode; rw [if_pos h1, h]))
    · rw [flCode_no h1]
      exact iIsFlow_mod s p q n c k d es m w hm hn hr h1

theorem iIsNowhereZero_any (s : Int) (p : Option Addr) (n c : Nat) (es : List (Int × Int)) (m : Int) (q : Option Addr) (k d : Nat) (xs : List Int) (pa : Addr) (w : World) (hg : w.cell? ⟨0, 0, none⟩ = some (.iface 104 (.pointer (some pa)))) (hm : n ≤ 1048576) (hn : es.length = n) (hr : SeesE w p es) (hk9 : k ≤ 1048576) (hx : xs.length = k) (hrx : SeesI w q xs) :
    Calls Tryd.prog 15 #[.agg #[.int .i64 s, .slice p n c], .int .i64 m, .slice q k d] w fun e' w' => e' = .returned (.tuple #[.bool (fIsNowhereZero s es m xs).1, .int .i64 (fIsNowhereZero s es m xs).2]) ∧ Below w.heap.size w w' := by
  unfold fIsNowhereZero
  by_cases h0 : flCode s es m 0 (m - 1) xs = 0
  · rw [if_pos h0]
    obtain ⟨g, _, hl, _⟩ := flCode_of h0
    obtain ⟨N, rfl⟩ : ∃ N : Nat, s = N := ⟨_, (Int.toNat_of_nonneg (by have := g.1.1.1; omega)).symm⟩
    rw [Int.toNat_natCast]
    obtain ⟨b, off, rfl, rd⟩ := isG_sees g hr
    obtain rfl : k = n := by omega
    exact iIsNowhereZero_yes N b off k c d q es m xs pa w hm hn rd hx hrx h0 hg
  · rw [if_neg h0]
    by_cases h1 : modCode s es m = 0
    · exact iIsNowhereZero_lst s p q n c k d es m xs w hm hn hr hk9 hx hrx h1 (fun h => h0 (by unfold flCode; rw [if_pos h1, h]))
    · rw [flCode_no h1]
      exact iIsNowhereZero_mod s p q n c k d es m w hm hn hr h1

theorem iIsWholeFlow_any (s : Int) (p : Option Addr) (n c : Nat) (es : List (Int × Int)) (m : Int) (q : Option Addr) (k d : Nat) (xs : List Int) (pa : Addr) (w : World) (hg : w.cell? ⟨0, 0, none⟩ = some (.iface 104 (.pointer (some pa)))) (hm : n ≤ 1048576) (hn : es.length = n) (hr : SeesE w p es) (hk9 : k ≤ 1048576) (hx : xs.length = k) (hrx : SeesI w q xs) :
    Calls Tryd.prog 17 #[.agg #[.int .i64 s, .slice p n c], .int .i64 m, .slice q k d] w fun e' w' => e' = .returned (.tuple #[.bool (fIsWholeFlow s es m xs).1, .int .i64 (fIsWholeFlow s es m xs).2]) ∧ Below w.heap.size w w' := by
  unfold fIsWholeFlow
  by_cases h0 : flCode s es m (-1000) 1000 xs = 0
  · rw [if_pos h0]
    obtain ⟨g, _, hl, _⟩ := flCode_of h0
    obtain ⟨N, rfl⟩ : ∃ N : Nat, s = N := ⟨_, (Int.toNat_of_nonneg (by have := g.1.1.1; omega)).symm⟩
    rw [Int.toNat_natCast]
    obtain ⟨b, off, rfl, rd⟩ := isG_sees g hr
    obtain rfl : k = n := by omega
    exact iIsWholeFlow_yes N b off k c d q es m xs pa w hm hn rd hx hrx h0 hg
  · rw [if_neg h0]
    by_cases h1 : modCode s es m = 0
    · exact iIsWholeFlow_lst s p q n c k d es m xs w hm hn hr hk9 hx hrx h1 (fun h => h0 (by unfold flCode; rw [if_pos h1, h]))
    · rw [flCode_no h1]
      exact iIsWholeFlow_mod s p q n c k d es m w hm hn hr h1

end Go.Proofs.YthncgpbgffbpgaaDoor
