/- CyclesOfSet: both sides. -/
import Derived.Test.YtogdcoioflcdiaaPlc
import Derived.Test.YtogdcoioflcdiaaCyM
import Derived.Test.YtogdcoioflcdiaaCycO
import Derived.Test.YtogdcoioflcdiaaEvnS
import Derived.Test.YtogdcoioflcdiaaEvnI
import Derived.Test.YtogdcoioflcdiaaEdgI
namespace Go.Proofs.Ytogdcoioflcdiaa
open Go.RowKit

theorem flat_at : ∀ (Ls : List (List Int)) (i j : Nat), i < Ls.length → j < (lI Ls i).length → eI Ls.flatten (sumLL Ls i + j) = eI (lI Ls i) j := by
  intro Ls
  have key : ∀ i, i ≤ Ls.length → sumLL Ls i = (Ls.take i).flatten.length := by
    intro k
    induction k with
    | zero => intro _; rfl
    | succ k ih =>
      intro hk
      show sumLL Ls k + (lI Ls k).length = _
      rw [ih (by omega), List.take_add_one, lI_lt (by omega), List.flatten_append, List.length_append]
      simp
  intro i j hi hj
  have h1 : Ls.flatten = (Ls.take i).flatten ++ (lI Ls i ++ (Ls.drop (i + 1)).flatten) := by
    have h2 : Ls.drop i = lI Ls i :: Ls.drop (i + 1) := by
      rw [List.drop_eq_getElem_cons hi]
      congr 1
      unfold lI
      simp [hi]
    calc Ls.flatten = (Ls.take i ++ Ls.drop i).flatten := by rw [List.take_append_drop]
      _ = _ := by rw [List.flatten_append, h2, List.flatten_cons]
  rw [h1, key i (by omega)]
  unfold eI
  rw [List.getD_eq_getElem?_getD, List.getD_eq_getElem?_getD, List.getElem?_append_right (by omega), Nat.add_sub_cancel_left, List.getElem?_append_left hj]
theorem rowsV_at {ba i : Nat} {Ls : List (List Int)} (hi : i < Ls.length) : (rowsV ba Ls)[i]? = some (.slice (some ⟨ba, sumLL Ls i, none⟩) (lI Ls i).length (lI Ls i).length) := by
  unfold rowsV
  rw [List.getElem?_map, List.getElem?_range hi]
  rfl
/-- Lists one after the other in one block lie apart. -/
theorem FreshP.flat {w : World} {B n cap ba m : Nat} {q : Option Addr} {Ls : List (List Int)} (hr : w.ownsRow B 25 1 (.slice q n cap) n (rowsV ba Ls)) (hl : Ls.length = n) (ho : OwnI w ba m Ls.flatten) (hB : B ≤ ba) : FreshP B w q n Ls := by
  refine ⟨hl, ?_⟩
  rcases hr.2 with ⟨_, h0⟩ | ⟨g, cap', cur, hv, hb, hg, hn, hm, hs, ht⟩
  · exact .inl h0
  · injection hv with v1 v2 v3
    subst v1
    have hgz : g < w.heap.size := (Array.getElem?_eq_some_iff.1 hg).1
    have hne : ba ≠ g := fun e => by
      subst e
      obtain ⟨cur2, hc2, _⟩ := ho
      have := Option.some.inj (hg.symm.trans hc2)
      injection this with _ h2
      exact absurd h2 (by decide)
    refine .inr ⟨g, fun i => (ba, sumLL Ls i), rfl, hgz, hb, fun i hi => ⟨(lI Ls i).length, ?_⟩, fun i hi => ⟨hB, hne, ho.lt, fun j hj => ?_, fun j hj => ho.free _⟩, fun i k hi hk hik => .inr ?_⟩
    · rw [cell_of_row w g _ cur _ _ hg]
      have h1 : (cur.toList.take (n * 1))[i]? = cur.toList[i]? := by rw [List.getElem?_take, if_pos (by omega)]
      rw [ht, rowsV_at hi] at h1
      rw [← Array.getElem?_toList, ← h1]
    · have h1 := ho.reads (sumLL Ls i + j) (by have h := sumLL_lt Ls hi; have h2 := sumLL_flat Ls; omega)
      rw [Nat.zero_add, flat_at Ls i j hi hj] at h1
      exact h1
    · rcases Nat.lt_or_ge i k with h | h
      · exact .inl (sumLL_lt Ls h)
      · exact .inr (sumLL_lt Ls (by omega))
theorem RowsM.seesL {w : World} {B cap : Nat} {q : Option Addr} {Ls : List (List Int)} {vals : List Value} (h : RowsM w B Ls cap q vals) : SeesL w q Ls := by
  obtain ⟨h1, h2, h3⟩ := h
  rcases h1.2 with ⟨_, h0⟩ | ⟨g, cap', cur, hv, hb, hg, hn, hm, hs, ht⟩
  · exact .inl (List.eq_nil_of_length_eq_zero h0)
  · injection hv with v1 v2 v3
    subst v1
    refine .inr ⟨g, 0, rfl, fun i hi => ?_⟩
    obtain ⟨g', c, e1, _, e3⟩ := h3 i hi
    refine ⟨some ⟨g', 0, none⟩, c, ?_, e3.sees⟩
    rw [Nat.zero_add, cell_of_row w g _ cur _ _ hg]
    have h4 : (cur.toList.take (Ls.length * 1))[i]? = cur.toList[i]? := by rw [List.getElem?_take, if_pos (by omega)]
    rw [ht, e1] at h4
    rw [← Array.getElem?_toList, ← h4]
    rfl

def fCyclesOfSet (s : Int) (es : List (Int × Int)) (xs : List Int) : List (List Int) × Int := if IsG s es then (if isSetP es.length xs then (if evenP s.toNat es xs then (cycX es xs xs.length, 0) else ([], 5)) else ([], 2)) else ([], 1)
theorem fCyclesOfSet_len (s : Int) (es : List (Int × Int)) (xs : List Int) (_ : es.length ≤ 1048576) (h : xs.length ≤ 1048576) : (fCyclesOfSet s es xs).1.length ≤ 1048576 := by
  unfold fCyclesOfSet
  split
  · split
    · split
      · exact Nat.le_trans (cycX_len _ _ _) h
      · simp
    · simp
  · simp
theorem fCyclesOfSet_sum (s : Int) (es : List (Int × Int)) (xs : List Int) (_ : es.length ≤ 1048576) (_ : xs.length ≤ 1048576) : 1 + sumLL (fCyclesOfSet s es xs).1 (fCyclesOfSet s es xs).1.length ≤ 1048576 := by
  unfold fCyclesOfSet
  by_cases g : IsG s es
  · rw [if_pos g]
    by_cases gs : isSetP es.length xs
    · rw [if_pos gs]
      by_cases ge : evenP s.toNat es xs
      · rw [if_pos ge]
        have h1 := set_len gs
        have h2 := isG_len g
        have h3 : (cycX es xs xs.length).flatten.length ≤ xs.length := flat_le (N := s.toNat) (by have h0 := g.1.1.1; rw [Int.toNat_of_nonneg (by omega)]; exact g) gs ge (Nat.le_refl _)
        show 1 + sumLL (cycX es xs xs.length) (cycX es xs xs.length).length ≤ 1048576
        rw [sumLL_flat]
        omega
      · rw [if_neg ge]; simp [sumLL]
    · rw [if_neg gs]; simp [sumLL]
  · rw [if_neg g]; simp [sumLL]

set_option maxRecDepth 100000 in
set_option maxHeartbeats 4000000 in
theorem sCos_code (s q0 : Int) (p ps : Option Addr) (n c k f : Nat) (es : List (Int × Int)) (xs : List Int) (w : World) (hm : n ≤ 1048576) (hn : es.length = n) (hr : SeesE w p es) (hk9 : k ≤ 1048576) (hx : xs.length = k) (hrx : SeesI w ps xs) (hq : edgesCode s es xs = q0) (hne : (q0 != 0) = true) :
    Calls Try.prog 27 #[.agg #[.int .i64 s, .slice p n c], .slice ps k f] w fun e' w' => e' = .returned (.tuple #[.slice none 0 0, .int .i64 q0]) ∧ Below w.heap.size w w' := by
  have Hn := hid hn
  have Hr := hid hr
  have Hx := hid hx
  have Hrx := hid hrx
  have HQ := hid hq
  clear hn hr hx hrx hq
  go_enter Try.func27, Try.ntmps27
  go_wp2_with fail
  refine (sEdges_any _ _ _ _ _ _ _ es xs _ hm Hn.out (Hr.out.on (on_alloc _ _)) hk9 Hx.out (Hrx.out.on (on_alloc _ _))).mono ?_
  rw [HQ.out]
  rintro e w2 ⟨rfl, hb2⟩
  have HB2 := hid (bfrom (w := w) (on_alloc _ _) hb2)
  clear hb2
  go_wp2
  go_ret2
  exact ⟨rfl, HB2.out⟩

set_option maxRecDepth 100000 in
set_option maxHeartbeats 4000000 in
theorem sCos_yes (N : Nat) (b off n c k f : Nat) (ps : Option Addr) (es : List (Int × Int)) (xs : List Int) (w : World) (hn : es.length = n) (hr : ReadsE w b off es) (g : IsG N es) (hk9 : k ≤ 1048576) (hx : xs.length = k) (hrx : SeesI w ps xs) (gs : isSetP n xs) :
    Calls Try.prog 27 #[.agg #[.int .i64 N, .slice (some ⟨b, off, none⟩) n c], .slice ps k f] w fun e' w' => ∃ q cap, e' = .returned (.tuple #[.slice q (if evenP N es xs then (cycX es xs k, (0 : Int)) else ([], 5)).1.length cap, .int .i64 (if evenP N es xs then (cycX es xs k, (0 : Int)) else ([], 5)).2]) ∧ SeesL w' q (if evenP N es xs then (cycX es xs k, (0 : Int)) else ([], 5)).1 ∧ Below w.heap.size w w' := by
  have hn30 : n ≤ 30 := by have := isG_len g; omega
  have Hn := hid hn
  have Hr := hid hr
  have G := hid g
  have Hx := hid hx
  have Hrx := hid hrx
  have GS := hid gs
  have HQ := hid (show edgesCode N es xs = 0 by unfold edgesCode setCode; rw [if_pos g, hn, if_pos gs])
  clear hn hr g hx hrx gs
  by_cases ge : evenP N es xs
  all_goals
    have GE := hid ge
    first | rw [if_pos GE.out] | rw [if_neg GE.out]
    clear ge
    go_enter Try.func27, Try.ntmps27
    go_wp2_with fail
    refine (sEdges_any _ _ _ _ _ _ _ es xs _ (by omega) Hn.out (SeesE.on (.inr ⟨b, off, rfl, Hr.out⟩) (on_alloc _ _)) hk9 Hx.out (Hrx.out.on (on_alloc _ _))).mono ?_
    rw [HQ.out]
    rintro e w3 ⟨rfl, hb3⟩
    have HB3 := hid (bfrom (w := w) (on_alloc _ _) hb3)
    have HX3 := hid ((Box.new w N (some ⟨b, off, none⟩) n c 31).on hb3)
    have hx3 := HX3.out.1
    have hy3 := HX3.out.2
    have hz3 := HX3.out.lt
    clear hb3
    go_wp2_with fail
    refine (sEven_any N b off n c ps k f es xs _ Hn.out (Hr.out.on HB3.out) G.out Hx.out (Hrx.out.on HB3.out) GS.out).mono ?_
    first | rw [decide_eq_true GE.out] | rw [decide_eq_false GE.out]
    rintro e w4 ⟨rfl, hb4⟩
    have HB4 := hid (bfrom HB3.out hb4)
    have HX4 := hid (HX3.out.on hb4)
    have hx4 := HX4.out.1
    have hy4 := HX4.out.2
    have hz4 := HX4.out.lt
    clear hx3 hy3 hz3 hb4
  · go_wp2_with fail

    refine (sCyc7_any N b off n c ps k f es xs _ Hn.out (Hr.out.on HB4.out) G.out Hx.out (Hrx.out.on HB4.out) GS.out GE.out).mono ?_
    rintro e w5 ⟨q, cap, vals, rfl, hR5, hb5⟩
    have HR5 := hid hR5.seesL
    have HB5 := hid (bfrom HB4.out hb5)
    clear hx4 hy4 hz4 hb5 hR5
    obtain ⟨L, hL⟩ : ∃ L, cycX es xs k = L := ⟨_, rfl⟩
    rw [hL] at HR5 ⊢
    have HLe := hid hL
    clear hL
    go_wp2
    go_ret2
    rw [HLe.out]
    exact ⟨q, cap, rfl, HR5.out, HB5.out⟩
  · go_wp2
    go_ret2
    exact ⟨none, 0, rfl, .inl rfl, HB4.out⟩

theorem sCyclesOfSet_any (s : Int) (p : Option Addr) (n c : Nat) (es : List (Int × Int)) (ps : Option Addr) (k f : Nat) (xs : List Int) (w : World) (hm : n ≤ 1048576) (hn : es.length = n) (hr : SeesE w p es) (hk : k ≤ 1048576) (hx : xs.length = k) (hrx : SeesI w ps xs) :
    Calls Try.prog 27 #[.agg #[.int .i64 s, .slice p n c], .slice ps k f] w fun e' w' => ∃ q cap, e' = .returned (.tuple #[.slice q (fCyclesOfSet s es xs).1.length cap, .int .i64 (fCyclesOfSet s es xs).2]) ∧ SeesL w' q (fCyclesOfSet s es xs).1 ∧ Below w.heap.size w w' := by
  unfold fCyclesOfSet
  by_cases g : IsG s es
  · rw [if_pos g]
    obtain ⟨N, rfl⟩ : ∃ N : Nat, s = N := ⟨_, (Int.toNat_of_nonneg (by have := g.1.1.1; omega)).symm⟩
    rw [Int.toNat_natCast]
    by_cases gs : isSetP es.length xs
    · rw [if_pos gs, hx]
      obtain ⟨b, off, rfl, rd⟩ := isG_sees g hr
      exact sCos_yes N b off n c k f ps es xs w hn rd g hk hx hrx (by rw [← hn]; exact gs)
    · rw [if_neg gs]
      exact (sCos_code N 2 p ps n c k f es xs w hm hn hr hk hx hrx (by unfold edgesCode setCode; rw [if_pos g, if_neg gs]) rfl).mono fun _ _ ⟨h1, h2⟩ => ⟨none, 0, h1, .inl rfl, h2⟩
  · rw [if_neg g]
    exact (sCos_code s 1 p ps n c k f es xs w hm hn hr hk hx hrx (by unfold edgesCode; rw [if_neg g]) rfl).mono fun _ _ ⟨h1, h2⟩ => ⟨none, 0, h1, .inl rfl, h2⟩

set_option maxRecDepth 100000 in
set_option maxHeartbeats 4000000 in
theorem iCos_code (s q0 : Int) (p ps : Option Addr) (n c k f : Nat) (es : List (Int × Int)) (xs : List Int) (w : World) (hm : n ≤ 1048576) (hn : es.length = n) (hr : SeesE w p es) (hk9 : k ≤ 1048576) (hx : xs.length = k) (hrx : SeesI w ps xs) (hq : edgesCode s es xs = q0) (hne : (q0 != 0) = true) :
    Calls Try.prog 28 #[.agg #[.int .i64 s, .slice p n c], .slice ps k f] w fun e' w' => e' = .returned (.tuple #[.slice none 0 0, .int .i64 q0]) ∧ Below w.heap.size w w' := by
  have Hn := hid hn
  have Hr := hid hr
  have Hx := hid hx
  have Hrx := hid hrx
  have HQ := hid hq
  clear hn hr hx hrx hq
  go_enter Try.func28, Try.ntmps28
  go_wp2_with fail
  refine (iCodeE_any _ _ _ _ _ _ _ es xs _ hm Hn.out (Hr.out.on (on_alloc _ _)) hk9 Hx.out (Hrx.out.on (on_alloc _ _))).mono ?_
  rw [HQ.out]
  rintro e w2 ⟨rfl, hb2⟩
  have HB2 := hid (bfrom (w := w) (on_alloc _ _) hb2)
  clear hb2
  go_wp2
  go_ret2
  exact ⟨rfl, HB2.out⟩

set_option maxRecDepth 100000 in
set_option maxHeartbeats 4000000 in
theorem iCos_yes (N : Nat) (b off n c k f : Nat) (ps : Option Addr) (es : List (Int × Int)) (xs : List Int) (w : World) (hn : es.length = n) (hr : ReadsE w b off es) (g : IsG N es) (hk9 : k ≤ 1048576) (hx : xs.length = k) (hrx : SeesI w ps xs) (gs : isSetP n xs) :
    Calls Try.prog 28 #[.agg #[.int .i64 N, .slice (some ⟨b, off, none⟩) n c], .slice ps k f] w fun e' w' => ∃ q cap, e' = .returned (.tuple #[.slice q (if evenP N es xs then (cycX es xs k, (0 : Int)) else ([], 5)).1.length cap, .int .i64 (if evenP N es xs then (cycX es xs k, (0 : Int)) else ([], 5)).2]) ∧ FreshP w.heap.size w' q (if evenP N es xs then (cycX es xs k, (0 : Int)) else ([], 5)).1.length (if evenP N es xs then (cycX es xs k, (0 : Int)) else ([], 5)).1 ∧ Below w.heap.size w w' := by
  have hn30 : n ≤ 30 := by have := isG_len g; omega
  have Hn := hid hn
  have Hr := hid hr
  have G := hid g
  have Hx := hid hx
  have Hrx := hid hrx
  have GS := hid gs
  have HQ := hid (show edgesCode N es xs = 0 by unfold edgesCode setCode; rw [if_pos g, hn, if_pos gs])
  clear hn hr g hx hrx gs
  by_cases ge : evenP N es xs
  all_goals
    have GE := hid ge
    first | rw [if_pos GE.out] | rw [if_neg GE.out]
    clear ge
    go_enter Try.func28, Try.ntmps28
    go_wp2_with fail
    refine (iCodeE_any _ _ _ _ _ _ _ es xs _ (by omega) Hn.out (SeesE.on (.inr ⟨b, off, rfl, Hr.out⟩) (on_alloc _ _)) hk9 Hx.out (Hrx.out.on (on_alloc _ _))).mono ?_
    rw [HQ.out]
    rintro e w3 ⟨rfl, hb3⟩
    have HB3 := hid (bfrom (w := w) (on_alloc _ _) hb3)
    have HX3 := hid ((Box.new w N (some ⟨b, off, none⟩) n c 31).on hb3)
    have hx3 := HX3.out.1
    have hy3 := HX3.out.2
    have hz3 := HX3.out.lt
    clear hb3
    go_wp2_with fail
    refine (iEven_any N b off n c ps k f es xs _ Hn.out (Hr.out.on HB3.out) G.out Hx.out (Hrx.out.on HB3.out) GS.out).mono ?_
    first | rw [decide_eq_true GE.out] | rw [decide_eq_false GE.out]
    rintro e w4 ⟨rfl, hb4⟩
    have HB4 := hid (bfrom HB3.out hb4)
    have HX4 := hid (HX3.out.on hb4)
    have hx4 := HX4.out.1
    have hy4 := HX4.out.2
    have hz4 := HX4.out.lt
    clear hx3 hy3 hz3 hb4
  · go_wp2_with fail

    refine (iCycO_any N b off n c k f ps es xs _ Hn.out (Hr.out.on HB4.out) G.out Hx.out (Hrx.out.on HB4.out) GS.out GE.out).mono ?_
    rintro e w5 ⟨q, cap, ba, rfl, hR5, hO5, hba, hb5⟩
    have HR5 := hid (FreshP.flat hR5 rfl hO5 hba)
    have HB5 := hid (bfrom HB4.out hb5)
    have hs4 := HB4.out.size
    clear hx4 hy4 hz4 hb5 hR5 hO5
    obtain ⟨L, hL⟩ : ∃ L, cycX es xs k = L := ⟨_, rfl⟩
    rw [hL] at HR5 ⊢
    have HLe := hid hL
    clear hL
    go_wp2
    go_ret2
    rw [HLe.out]
    exact ⟨q, cap, rfl, HR5.out.less hs4, HB5.out⟩
  · go_wp2
    go_ret2
    exact ⟨none, 0, rfl, ⟨rfl, .inl rfl⟩, HB4.out⟩

theorem iCyclesOfSet_any (s : Int) (p : Option Addr) (n c : Nat) (es : List (Int × Int)) (ps : Option Addr) (k f : Nat) (xs : List Int) (w : World) (hm : n ≤ 1048576) (hn : es.length = n) (hr : SeesE w p es) (hk : k ≤ 1048576) (hx : xs.length = k) (hrx : SeesI w ps xs) :
    Calls Try.prog 28 #[.agg #[.int .i64 s, .slice p n c], .slice ps k f] w fun e' w' => ∃ q cap, e' = .returned (.tuple #[.slice q (fCyclesOfSet s es xs).1.length cap, .int .i64 (fCyclesOfSet s es xs).2]) ∧ FreshP w.heap.size w' q (fCyclesOfSet s es xs).1.length (fCyclesOfSet s es xs).1 ∧ Below w.heap.size w w' := by
  unfold fCyclesOfSet
  by_cases g : IsG s es
  · rw [if_pos g]
    obtain ⟨N, rfl⟩ : ∃ N : Nat, s = N := ⟨_, (Int.toNat_of_nonneg (by have := g.1.1.1; omega)).symm⟩
    rw [Int.toNat_natCast]
    by_cases gs : isSetP es.length xs
    · rw [if_pos gs, hx]
      obtain ⟨b, off, rfl, rd⟩ := isG_sees g hr
      exact iCos_yes N b off n c k f ps es xs w hn rd g hk hx hrx (by rw [← hn]; exact gs)
    · rw [if_neg gs]
      exact (iCos_code N 2 p ps n c k f es xs w hm hn hr hk hx hrx (by unfold edgesCode setCode; rw [if_pos g, if_neg gs]) rfl).mono fun _ _ ⟨h1, h2⟩ => ⟨none, 0, h1, ⟨rfl, .inl rfl⟩, h2⟩
  · rw [if_neg g]
    exact (iCos_code s 1 p ps n c k f es xs w hm hn hr hk hx hrx (by unfold edgesCode; rw [if_neg g]) rfl).mono fun _ _ ⟨h1, h2⟩ => ⟨none, 0, h1, ⟨rfl, .inl rfl⟩, h2⟩

end Go.Proofs.Ytogdcoioflcdiaa
