/- How many matchings have an edge, in the program: countWith. -/
import Derived.Test.YthacpadadccioaaMtJ
import Derived.Test.YthacpadadccioaaMtW
import Derived.Test.YthacpadadccioaaImplG
import Derived.Sort.CutIn
namespace Go.Proofs.Ythacpadadccioaa
open Go.RowKit Go.Shelf

attribute [local go_sem] Oper.semAt_some

theorem three_le {H : Nat} (hH : H ≤ 10) : 3 ^ H ≤ 59049 := Nat.le_trans (Nat.pow_le_pow_right (by omega) hH) (by decide)

set_option maxRecDepth 100000 in
set_option maxHeartbeats 16000000 in
theorem iCountWith_any (N H E b off n c : Nat) (es : List (Int × Int)) (w : World) (hn : es.length = n) (hr : ReadsE w b off es) (g : IsG N es) (hH : N = 2 * (H + 1)) (hE : E < n) :
    Calls Try.prog 67 #[.agg #[.int .i64 N, .slice (some ⟨b, off, none⟩) n c], .int .i64 E] w fun e' w' => e' = .returned (.int .i64 (cwE E (mtL N es) : Nat)) ∧ Below w.heap.size w w' := by
  obtain ⟨X, Y, hXY⟩ := endE_of g (e := E) (by omega)
  have hcw := mtL_with g hXY hH
  obtain ⟨F, hF⟩ : ∃ F, cwE E (mtL N es) = F := ⟨_, rfl⟩
  rw [hF] at hcw ⊢
  have HCw := hid hcw
  have HXY := hid hXY
  have hN20 : N ≤ 20 := by have := g.1.1.2.1; omega
  have hn30 : n ≤ 30 := by have := isG_len g; omega
  have hbl : b < w.heap.size := reads_lt hr (by have := g.1.1.2.2.2; have := g.1.1.1; omega)
  have hc1 := (hr E (by omega)).1
  have hc2 := (hr E (by omega)).2
  rw [hXY.a] at hc1
  rw [hXY.b] at hc2
  have hX20 : X < 20 := by have := hXY.x; omega
  have hY20 : Y < 20 := by have := hXY.y; omega
  have hXn : ¬ X = Y := hXY.ne
  have hEn : (E : Int) < (n : Int) := by omega
  have Hn := hid hn
  have Hr := hid hr
  have G := hid g
  have HH := hid hH
  obtain ⟨w2, hw2⟩ : ∃ w2, w2 = (w.alloc (.cells #[.int .i64 N, .slice (some ⟨b, off, none⟩) n c] 30)).alloc (.cells #[.bool false, .bool false, .bool false, .bool false, .bool false, .bool false, .bool false, .bool false, .bool false, .bool false, .bool false, .bool false, .bool false, .bool false, .bool false, .bool false, .bool false, .bool false, .bool false, .bool false] 117) := ⟨_, rfl⟩
  have HB2 := hid (show Below w.heap.size w w2 by rw [hw2]; exact bfrom (on_alloc _ _) (on_alloc _ _))
  have HX2 := hid (show Box w2 w.heap.size N (some ⟨b, off, none⟩) n c by rw [hw2]; exact (Box.new _ _ _ _ _ _).on (on_alloc _ _))
  have HV2 := hid (show OwnV w2 (w.heap.size + 1) (List.replicate 20 false) by rw [hw2]; exact own_marks _ _ (by simp))
  have HZ2 := hid (show w2.heap.size = w.heap.size + 2 by rw [hw2]; simp)
  clear hcw hXY hn hr g hH hF
  refine (callsIn_wide (n := 6)).1 ?_
  refine callsIn_of_wp_marks Try.func67 rfl trivial ?_ rfl
  simp only [Try.ntmps67, List.size_toArray, List.length_cons, List.length_nil, Nat.reduceAdd, Nat.reduceSub, Array.replicate_succ, Array.replicate_zero, List.push_toArray, List.append_toArray, List.nil_append, List.cons_append]
  gi_wp2
  refine ⟨trivial, ?_⟩
  rw [← hw2]
  clear hw2
  refine (callsIn_wide.2 (iAdd_any (w.heap.size + 1) X Y (List.replicate 20 false) w2 hX20 hY20 hXn HV2.out)).mono ?_
  rintro e w3 ⟨rfl, ho3, hg3⟩
  have HV3 := hid (show OwnV w3 (w.heap.size + 1) (markV (List.replicate 20 false) X Y) from ho3)
  have HG3 := hid hg3
  have HX3 := hid (HX2.out.kept hg3 (fun e => by have := Option.some.inj e; omega))
  have hz3 := hg3.size
  clear ho3 hg3
  obtain ⟨ms, hms⟩ : ∃ ms, markV (List.replicate 20 false) X Y = ms := ⟨_, rfl⟩
  have HMs := hid hms
  rw [hms] at HV3
  have hl : ms.length = 20 := HV3.out.1
  obtain ⟨MA, hMA⟩ : ∃ MA, metA ms = MA := ⟨_, rfl⟩
  have hMAl : MA.toList = ms.map Value.bool := by rw [← hMA]; exact metA_list hl
  have hMAs : MA.size = 20 := by rw [← hMA]; rfl
  have HMA := hid hMA
  have HLd := hid (fun (W : World) (hV : OwnV W (w.heap.size + 1) ms) => show W.rangeAt (w.heap.size + 1) 0 MA.toList from fun j v hj => by
    rw [Nat.zero_add]
    rw [hMAl, List.getElem?_map, Option.map_eq_some_iff] at hj
    obtain ⟨x, hx, rfl⟩ := hj
    have hj2 : j < 20 := by rw [← hl]; exact (List.getElem?_eq_some_iff.1 hx).1
    rw [hV.cell hj2, eL_lt (by omega), (List.getElem?_eq_some_iff.1 hx).2])
  have HSz := hid (show (Try.prog.info? 117).map (·.size) = some MA.toList.length by rw [Array.length_toList, hMAs]; kernel_rfl)
  clear hMA hMAl hMAs hms
  gi_upto_region 4 with (fail)
  refine region_wide ?_
  have hw4 : Below w3.heap.size w3 (w3.alloc (.cells #[.int .i64 0] 2)) := on_alloc _ _
  obtain ⟨w4, hw4e⟩ : ∃ w4, w3.alloc (.cells #[.int .i64 0] 2) = w4 := ⟨_, rfl⟩
  rw [hw4e] at hw4 ⊢
  have HB4 := hid hw4
  have HZ4 := hid (show w4.heap.size = w3.heap.size + 1 by rw [← hw4e]; simp)
  have HC4 := hid (show Boxed w4 w3.heap.size 2 (.int .i64 0) by rw [← hw4e]; exact Boxed.new _ _ _)
  have HX4 := hid (HX3.out.on hw4)
  have HLd4 := hid (HLd.out w4 (HV3.out.on hw4))
  have hx1 := HX4.out.1
  have hx2 := HX4.out.2
  have hxz := HX4.out.lt
  have hlz : w.heap.size + 1 < w4.heap.size := by have := HZ4.out; have := HZ2.out; have := HG3.out.size; omega
  clear hw4 hw4e
  go_wp2_with (first
    | ((with_reducible refine wpList_load_mid (op := ⟨some 14, _, _, _, _, _⟩) rfl _ (.tmp 5) rfl (w.heap.size + 1) 0 rfl MA.toList _ HLd4.out Try.underlying117 (by kernel_rfl) HSz.out ?_); rw [Array.toArray_toList])
    | (go_at_call 115; rw [← HMA.out]; refine (iRests_func N (some ⟨b, off, none⟩) n c ms _).mono ?_; rintro e' w' ⟨rfl, rfl⟩))
  clear hx1 hx2
  obtain ⟨w5, hw5⟩ : ∃ w5, w5 = (w4.alloc (.cells #[.int .i64 N, .slice (some ⟨b, off, none⟩) n c] 30)).alloc (.cells (metA ms) 117) := ⟨_, rfl⟩
  have HZ5 := hid (show w5.heap.size = w4.heap.size + 2 by rw [hw5]; simp)
  have HB5 := hid (show Below w4.heap.size w4 w5 by rw [hw5]; exact bfrom (on_alloc _ _) (on_alloc _ _))
  have hG5 : w5.heap[w4.heap.size]? = some (.cells #[.int .i64 N, .slice (some ⟨b, off, none⟩) n c] 30 (0, 0)) := by
    rw [hw5]
    exact ((on_alloc _ _).block _ (by simp)).trans (World.alloc_heap_new w4 (.cells #[.int .i64 N, .slice (some ⟨b, off, none⟩) n c] 30))
  have hM5 : w5.heap[w4.heap.size + 1]? = some (.cells (metA ms) 117 (0, 0)) := by
    rw [hw5]
    have h := World.alloc_heap_new (w4.alloc (.cells #[.int .i64 N, .slice (some ⟨b, off, none⟩) n c] 30)) (.cells (metA ms) 117)
    rw [World.size_alloc] at h
    exact h
  rw [← hw5]
  clear hw5
  have hz2 := HZ2.out
  have hz4 := HZ4.out
  have hz5 := HZ5.out
  have hs3 := hz3
  have hp3 : 3 ^ H ≤ 59049 := three_le (by have := HH.out; omega)
  have hu : unmF ms N = 2 * H := by
    have h := markV_unm (ms := List.replicate 20 false) (v := X) (w := Y) (N := N) (by simpa using hN20) HXY.out.x HXY.out.y hXn (by unfold eL; rw [List.getD_eq_getElem?_getD, List.getElem?_replicate, if_pos hX20]; rfl) (by unfold eL; rw [List.getD_eq_getElem?_getD, List.getElem?_replicate, if_pos hY20]; rfl)
    rw [HMs.out, unmF_none N hN20] at h
    have := HH.out
    omega
  have HB50 := hid (show Below w.heap.size w w5 from (bfrom (bfrom (below_grown_row HB2.out HG3.out (by omega) (by omega)) HB4.out) HB5.out))
  gi_wp2
  refine rangeFunc_movesK (n := 6) rfl (by omega) (gf := 147) (lb := #[.pointer (some ⟨w4.heap.size + 1, 0, none⟩), .pointer (some ⟨w4.heap.size, 0, none⟩)]) rfl trivial (enters_of Try.func147 (by kernel_rfl) rfl) (A := w4.heap.size + 4) (by omega)
    (mt_moves 4 w3.heap.size (w4.heap.size + 4) w4.heap.size (w4.heap.size + 1) b off n c N (H + 1) H es ms _ (by omega) (by omega) hG5 hM5 G.out Hn.out (by omega) (Hr.out.on HB50.out) hl hu HH.out (by omega))
    (fun h k => h.trans k)
    (fun W l o o' h1 h2 hl ho => ⟨⟨rfl, rfl, rfl, by simp [World.putObj], fun i hi _ => World.putObj_heap_other (by omega)⟩, by simp [World.putObj], fun i hi _ _ => World.putObj_heap_other (by omega)⟩)
    (fun h k => h.trans k)
    (fun W l o o' h1 h2 hl ho => ⟨by simp [World.putObj], fun i hi _ _ => World.putObj_heap_other (by omega)⟩)
    (fun Y Z i o h h1 h2 ho => (h.1.same i (by omega) (Array.getElem?_eq_some_iff.1 ho).1).trans ho) (fun Y Z h => h.1.size)
    (fun x W l o o' h h1 h2 hl ho => ⟨h.1.keep (World.putObj_heap_other (by omega)), h.2.1, by simpa [World.putObj] using h.2.2⟩) (Below.refl _ _) (fun _ => rfl)
    (fun (pre : List (List Int)) W => Boxed W w3.heap.size 2 (.int .i64 (pre.length : Nat)) ∧ Below w.heap.size w W)
    (fun c' pre W => False)
    (OwnFrom.and (Own.from (boxed_own _ _ (fun (pre : List (List Int)) => Value.int .i64 (pre.length : Nat))) _) (ownFrom_below (Nat.le_refl _) (by omega)))
    (fun c' => ownFrom_pure _ (fun (pre : List (List Int)) => False))
    (fun s Y Z h hm => ⟨boxN_moved h.1 hm.1 (by omega), h.2.trans (hm.1.below (fun i hi => by omega) h.2.size)⟩)
    (fun c' s Y Z h hm => h)
    ⟨(HB5.out.block _ HC4.out.lt).trans HC4.out, HB50.out⟩
    ?a1 ?assign ?body ?done ?stop
  case assign =>
    intro l x W K hK
    gi_wp2
    exact hK
  case body =>
    rintro l pre x W ⟨h1, h2⟩ hX hA hlt
    have hc1 := h1.cell
    have hf1 := h1.frozen
    have hz1 := h1.lt
    obtain ⟨T, hT⟩ : ∃ T, pre.length = T := ⟨_, rfl⟩
    rw [hT] at hlt hc1 h1
    have hT6 : T ≤ 59049 := by omega
    gi_wp2
    exact ⟨(KeepsOthers.setCell _ _ _).from _, ⟨((Kept.refl _ W).set (by show ¬ w3.heap.size < w3.heap.size; omega) _), by simp [World.setCell], fun i hi _ _ => heap_setCell_other _ _ i _ (by show i ≠ w3.heap.size; omega)⟩, by rw [List.length_append, hT]; exact Boxed.set _ h1, h2.setCell (p := ⟨w3.heap.size, 0, none⟩) (by show w.heap.size ≤ w3.heap.size; omega) _⟩
  case done =>
    rintro D ys W hD hS ⟨h1, h2⟩ hK
    have hF : ys.length = F := by rw [hS, ← HMs.out]; exact HCw.out.symm
    rw [hF] at h1
    have hc1 := h1.cell
    have hf1 := h1.frozen
    have hz1 := h1.lt
    gi_wp2
    refine ⟨by simp, .inl ⟨_, _, rfl, run_takeDeferred hK, ?_⟩⟩
    exact ⟨_, results_tmp rfl _ _ _, rfl, h2.trans (belowK_b (w := w) (Nat.le_refl _) W D _ _ (by omega) hK rfl rfl)⟩
  case stop =>
    rintro D c' pre W hD hpre h hK
    exact h.elim

set_option maxRecDepth 100000 in
set_option maxHeartbeats 4000000 in
theorem iMw_yes (N : Nat) (E b off n c : Nat) (es : List (Int × Int)) (w : World) (hn : es.length = n) (hr : ReadsE w b off es) (g : IsG N es) (hE : E < n) :
    Calls Try.prog 27 #[.agg #[.int .i64 N, .slice (some ⟨b, off, none⟩) n c], .int .i64 E] w fun e' w' => e' = .returned (.tuple #[.int .i64 (cwE E (mtL N es) : Nat), .int .i64 0]) ∧ Below w.heap.size w w' := by
  have hn30 : n ≤ 30 := by have := isG_len g; omega
  have hH : N = 2 * ((N / 2 - 1) + 1) := by have := g.1.1.1; have := g.1.1.2.2.1; omega
  have Hn := hid hn
  have Hr := hid hr
  have G := hid g
  have HH := hid hH
  have HI := hid (show (0 : Int) ≤ (E : Int) ∧ (E : Int) < (n : Int) by omega)
  have HE := hid hE
  obtain ⟨r, hR⟩ : ∃ r, cwE E (mtL N es) = r := ⟨_, rfl⟩
  rw [hR]
  have HR := hid hR
  clear hn hr g hH hR hE
  go_enter Try.func27, Try.ntmps27
  go_wp2_with fail
  refine (iIsGraph_any _ _ _ _ es _ (by omega) Hn.out (SeesE.on (.inr ⟨b, off, rfl, Hr.out⟩) (on_alloc _ _))).mono ?_
  rw [decide_eq_true G.out]
  rintro e w2 ⟨rfl, hb2⟩
  have HB2 := hid (bfrom (w := w) (on_alloc _ _) hb2)
  have HX2 := hid ((Box.new w N (some ⟨b, off, none⟩) n c 30).on hb2)
  have hx2 := HX2.out.1
  have hy2 := HX2.out.2
  have hz2 := HX2.out.lt
  clear hb2
  go_wp2_with (go_at_call 66; refine (iBelow_yes _ _ _ HI.out).mono ?_; rintro e' w' ⟨rfl, rfl⟩)
  refine (iCountWith_any N _ E b off n c es _ Hn.out (Hr.out.on HB2.out) G.out HH.out HE.out).mono ?_
  rw [HR.out]
  rintro e w3 ⟨rfl, hb3⟩
  have HB3 := hid (bfrom HB2.out hb3)
  clear hb3 hx2 hy2
  go_wp2
  go_ret2
  exact ⟨rfl, HB3.out⟩

set_option maxRecDepth 100000 in
set_option maxHeartbeats 4000000 in
theorem iMw_range (s x : Int) (p : Option Addr) (n c : Nat) (es : List (Int × Int)) (w : World) (hm : n ≤ 1048576) (hn : es.length = n) (hr : SeesE w p es) (g : IsG s es) (hx : ¬ (0 ≤ x ∧ x < (n : Int))) :
    Calls Try.prog 27 #[.agg #[.int .i64 s, .slice p n c], .int .i64 x] w fun e' w' => e' = .returned (.tuple #[.int .i64 0, .int .i64 2]) ∧ Below w.heap.size w w' := by
  have Hn := hid hn
  have Hr := hid hr
  have G := hid g
  have HI := hid hx
  clear hn hr g hx
  go_enter Try.func27, Try.ntmps27
  go_wp2_with fail
  refine (iIsGraph_any _ _ _ _ es _ (by omega) Hn.out (Hr.out.on (on_alloc _ _))).mono ?_
  rw [decide_eq_true G.out]
  rintro e w2 ⟨rfl, hb2⟩
  have HB2 := hid (bfrom (w := w) (on_alloc _ _) hb2)
  have HX2 := hid ((Box.new w s p n c 30).on hb2)
  have hx2 := HX2.out.1
  have hy2 := HX2.out.2
  have hz2 := HX2.out.lt
  clear hb2
  go_wp2_with (go_at_call 66; refine (iBelow_no _ _ _ HI.out).mono ?_; rintro e' w' ⟨rfl, rfl⟩)
  go_ret2
  exact ⟨rfl, HB2.out⟩

set_option maxRecDepth 100000 in
set_option maxHeartbeats 4000000 in
theorem iMw_none (s x : Int) (p : Option Addr) (n c : Nat) (es : List (Int × Int)) (w : World) (hm : n ≤ 1048576) (hn : es.length = n) (hr : SeesE w p es) (g : ¬ IsG s es) :
    Calls Try.prog 27 #[.agg #[.int .i64 s, .slice p n c], .int .i64 x] w fun e' w' => e' = .returned (.tuple #[.int .i64 0, .int .i64 1]) ∧ Below w.heap.size w w' := by
  have Hn := hid hn
  have Hr := hid hr
  have G := hid g
  clear hn hr g
  go_enter Try.func27, Try.ntmps27
  go_wp2_with fail
  refine (iIsGraph_any _ _ _ _ es _ (by omega) Hn.out (Hr.out.on (on_alloc _ _))).mono ?_
  rw [decide_eq_false G.out]
  rintro e w2 ⟨rfl, hb2⟩
  have HB2 := hid (bfrom (w := w) (on_alloc _ _) hb2)
  clear hb2
  go_wp2
  go_ret2
  exact ⟨rfl, HB2.out⟩


end Go.Proofs.Ythacpadadccioaa
