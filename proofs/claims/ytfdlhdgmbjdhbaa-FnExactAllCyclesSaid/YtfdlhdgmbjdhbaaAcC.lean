/- The order of the cycles in the program: slices.Compare at any rows, cmp.Compare and cmp.Or at int, the closure of AllCycles; and the sort by it. -/
import Derived.Test.YtfdlhdgmbjdhbaaAcD
import Derived.Test.YtfdlhdgmbjdhbaaAcI
import Derived.Test.YtfdlhdgmbjdhbaaImplF
import Derived.Test.YtfdlhdgmbjdhbaaShelfE
namespace Go.Proofs.Ytfdlhdgmbjdhbaa
open Go.RowKit Go.Lib Go.Sort Go.Shelf

theorem eI_drop {xs : List Int} {k : Nat} (h : k < xs.length) : xs.drop k = eI xs k :: xs.drop (k + 1) := by
  rw [List.drop_eq_getElem_cons h, eI_lt h]
theorem lexR_step (a b : Int) (x y : List Int) : lexR (a :: x) (b :: y) = if a < b then -1 else if b < a then 1 else lexR x y := by rw [lexR]
theorem lexR_cons (a b : Int) (x y : List Int) : lexR (a :: x) (b :: y) = if cmp3 a b = 0 then lexR x y else cmp3 a b := by
  rw [lexR_step]
  unfold cmp3
  by_cases h1 : a < b
  · simp [h1]
  · by_cases h2 : b < a
    · simp [h1, h2]
    · simp [h1, h2]

set_option maxRecDepth 100000 in
set_option maxHeartbeats 2000000 in
theorem iLex_any (b o c b2 o2 c2 n m : Nat) (xs ys : List Int) (w : World) (hn : xs.length = n) (hm : ys.length = m) (hn2 : n ≤ 1048576) (hm2 : m ≤ 1048576) (hr : ReadsI w b o xs) (hr2 : ReadsI w b2 o2 ys) :
    Calls Try.prog 50 #[.slice (some ⟨b, o, none⟩) n c, .slice (some ⟨b2, o2, none⟩) m c2] w fun e w' => e = .returned (.int .i64 (lexR xs ys)) ∧ w = w' := by
  obtain ⟨R, hR⟩ : ∃ R, lexR xs ys = R := ⟨_, rfl⟩
  rw [hR]
  have HR := hid hR
  have Hn := hid hn
  have Hm := hid hm
  have Hr := hid hr
  have Hr2 := hid hr2
  clear hR hn hm hr hr2
  go_enter Try.func50, Try.ntmps50
  go_wp2
  go_loopw [11] (fun u wr => ∃ k : Nat, k ≤ n ∧ k ≤ m ∧ u = .int .i64 k ∧ w = wr ∧ Hid (lexR (xs.drop k) (ys.drop k) = R)) (fun u _ => n - (intOf u).toNat)
  case atStart => exact ⟨0, Nat.zero_le _, Nat.zero_le _, rfl, rfl, hid (by simpa using HR.out)⟩
  case round =>
    obtain ⟨k, hk, hkm, rfl, rfl, hl⟩ := hrel
    by_cases hlt : k < n
    · have hlt' : (k : Int) < (n : Int) := by omega
      have hc1 := Hr.out k (by rw [Hn.out]; exact hlt)
      obtain ⟨x, hx⟩ : ∃ x, eI xs k = x := ⟨_, rfl⟩
      rw [hx] at hc1
      have hd := eI_drop (xs := xs) (k := k) (by rw [Hn.out]; exact hlt)
      rw [hx] at hd
      by_cases hkl : k < m
      · have hge : decide ((m : Int) ≤ (k : Int)) = false := decide_eq_false (by omega)
        have hkl' : (k : Int) < (m : Int) := by omega
        have hc2 := Hr2.out k (by rw [Hm.out]; exact hkl)
        obtain ⟨y, hy⟩ : ∃ y, eI ys k = y := ⟨_, rfl⟩
        rw [hy] at hc2
        have hd2 := eI_drop (xs := ys) (k := k) (by rw [Hm.out]; exact hkl)
        rw [hy] at hd2
        have hs := hl.out
        rw [hd, hd2, lexR_cons] at hs
        have hbz := World.block_lt_of_cell? w _ hc1
        have hbz2 := World.block_lt_of_cell? w _ hc2
        dsimp only at hbz hbz2
        obtain ⟨q, hq⟩ : ∃ q, cmp3 x y = q := ⟨_, rfl⟩
        rw [hq] at hs
        have HQ := hid hq
        have HKL := hid (show k < n ∧ k < m from ⟨hlt, hkl⟩)
        clear hx hy hd hd2 hq hlt hkl
        by_cases h0 : q = 0
        · rw [if_pos h0] at hs
          have HS := hid hs
          subst h0
          clear hs
          go_wp2_with (go_at_call 88; refine (cmp_any _ _ _).mono ?_; rw [HQ.out]; rintro e w' ⟨rfl, rfl⟩)
          go_roundw
          case rel => exact ⟨k + 1, by have := HKL.out; omega, by have := HKL.out; omega, by go_num, by first | rfl | trivial, HS⟩
          case measure => have := HKL.out; simp [intOf]; omega
        · rw [if_neg h0] at hs
          have hn' : (q != 0) = true := by simpa using h0
          have HS := hid hs
          clear hs h0
          go_wp2_with (go_at_call 88; refine (cmp_any _ _ _).mono ?_; rw [HQ.out]; rintro e w' ⟨rfl, rfl⟩)
          go_ret
          exact ⟨by rw [← HS.out]; rfl, rfl⟩
      · obtain rfl : k = m := by omega
        have hs := hl.out
        rw [hd, show ys.drop k = [] from List.drop_eq_nil_of_le (by rw [Hm.out]; exact Nat.le_refl _)] at hs
        have HS := hid hs
        have hge : decide ((k : Int) ≤ (k : Int)) = true := decide_eq_true (Int.le_refl _)
        have hbz := World.block_lt_of_cell? w _ hc1
        dsimp only at hbz
        clear hs hd hx hlt hkl
        go_wp2
        go_ret
        exact ⟨by rw [← HS.out]; rfl, rfl⟩
    · obtain rfl : k = n := by omega
      have hs := hl.out
      rw [show xs.drop k = [] from List.drop_eq_nil_of_le (by rw [Hn.out]; exact Nat.le_refl _)] at hs
      by_cases hkl : k < m
      · have hkl' : (k : Int) < (m : Int) := by omega
        rw [eI_drop (by rw [Hm.out]; exact hkl)] at hs
        have HS := hid hs
        clear hs hlt hkl
        go_wp2
        go_ret
        exact ⟨by rw [← HS.out]; rfl, rfl⟩
      · obtain rfl : k = m := by omega
        rw [show ys.drop k = [] from List.drop_eq_nil_of_le (by rw [Hm.out]; exact Nat.le_refl _)] at hs
        have HS := hid hs
        clear hs hlt hkl
        go_wp2
        go_ret
        exact ⟨by rw [← HS.out]; rfl, rfl⟩

theorem isNaNI_any (x : Int) (w : World) : Calls Try.prog 87 #[.int .i64 x] w fun e w' => e = .returned (.bool false) ∧ w = w' := by
  go_enter Try.func87, Try.ntmps87
  go_wp2
  go_ret
  exact ⟨rfl, rfl⟩
theorem cmpI_any (x y : Int) (w : World) : Calls Try.prog 49 #[.int .i64 x, .int .i64 y] w fun e w' => e = .returned (.int .i64 (cmp3 x y)) ∧ w = w' := by
  unfold cmp3
  by_cases h1 : x < y
  · rw [if_pos h1]
    have h1' : decide (x < y) = true := decide_eq_true h1
    clear h1
    go_enter Try.func49, Try.ntmps49
    go_wp2_with (go_at_call 87; refine (isNaNI_any _ _).mono ?_; rintro e w' ⟨rfl, rfl⟩)
    go_ret
    exact ⟨rfl, rfl⟩
  · rw [if_neg h1]
    have h1' : decide (x < y) = false := decide_eq_false h1
    by_cases h2 : y < x
    · rw [if_pos h2]
      have h2' : decide (y < x) = true := decide_eq_true h2
      clear h1 h2
      go_enter Try.func49, Try.ntmps49
      go_wp2_with (go_at_call 87; refine (isNaNI_any _ _).mono ?_; rintro e w' ⟨rfl, rfl⟩)
      go_ret
      exact ⟨rfl, rfl⟩
    · rw [if_neg h2]
      have h2' : decide (y < x) = false := decide_eq_false h2
      clear h1 h2
      go_enter Try.func49, Try.ntmps49
      go_wp2_with (go_at_call 87; refine (isNaNI_any _ _).mono ?_; rintro e w' ⟨rfl, rfl⟩)
      go_ret
      exact ⟨rfl, rfl⟩

set_option maxRecDepth 100000 in
theorem orI_any (g : Nat) (a b : Int) (w : World) (h0 : w.cell? ⟨g, 0, none⟩ = some (.int .i64 a)) (h1 : w.cell? ⟨g, 1, none⟩ = some (.int .i64 b)) :
    Calls Try.prog 48 #[.slice (some ⟨g, 0, none⟩) 2 2] w fun e w' => e = .returned (.int .i64 (if a = 0 then b else a)) ∧ w = w' := by
  have hg := World.block_lt_of_cell? w _ h0
  dsimp only at hg
  by_cases ha : a = 0
  · rw [if_pos ha]
    subst ha
    by_cases hb : b = 0
    · subst hb
      go_enter Try.func48, Try.ntmps48
      go_wp2
      refine wp_loop_rounds 3 ?_
      rw [rounds_succ]
      go_wp2
      rw [rounds_succ]
      go_wp2
      rw [rounds_succ]
      go_wp2
      go_ret
      exact ⟨rfl, rfl⟩
    · have hb' : (b != 0) = true := by simpa using hb
      go_enter Try.func48, Try.ntmps48
      go_wp2
      refine wp_loop_rounds 3 ?_
      rw [rounds_succ]
      go_wp2
      rw [rounds_succ]
      go_wp2
      go_ret
      exact ⟨rfl, rfl⟩
  · rw [if_neg ha]
    have ha' : (a != 0) = true := by simpa using ha
    go_enter Try.func48, Try.ntmps48
    go_wp2
    refine wp_loop_rounds 3 ?_
    rw [rounds_succ]
    go_wp2
    go_ret
    exact ⟨rfl, rfl⟩

theorem cmpR_three (xs ys : List Int) : cmpR xs ys = if cmp3 (xs.length : Int) (ys.length : Int) = 0 then lexR xs ys else cmp3 (xs.length : Int) (ys.length : Int) := by
  unfold cmpR cmp3
  by_cases h1 : xs.length < ys.length
  · have : (xs.length : Int) < (ys.length : Int) := by omega
    simp [h1, this]
  · by_cases h2 : ys.length < xs.length
    · have e1 : ¬ (xs.length : Int) < (ys.length : Int) := by omega
      have e2 : (ys.length : Int) < (xs.length : Int) := by omega
      simp [h1, h2, e1, e2]
    · have e1 : ¬ (xs.length : Int) < (ys.length : Int) := by omega
      have e2 : ¬ (ys.length : Int) < (xs.length : Int) := by omega
      simp [h1, h2, e1, e2]

set_option maxRecDepth 100000 in
set_option maxHeartbeats 2000000 in
/-- The closure: a block is laid. -/
theorem cmpAc_any (b o c b2 o2 c2 n m : Nat) (xs ys : List Int) (w : World) (hn : xs.length = n) (hm : ys.length = m) (hn2 : n ≤ 1048576) (hm2 : m ≤ 1048576) (hr : ReadsI w b o xs) (hr2 : ReadsI w b2 o2 ys) :
    Calls Try.prog 47 #[.slice (some ⟨b, o, none⟩) n c, .slice (some ⟨b2, o2, none⟩) m c2] w fun e w' => e = .returned (.int .i64 (cmpR xs ys)) ∧ ∃ q os', w' = grow (w.drewN q) os' := by
  obtain ⟨R, hR⟩ : ∃ R, cmpR xs ys = R := ⟨_, rfl⟩
  rw [hR]
  rw [cmpR_three, hn, hm] at hR
  obtain ⟨C, hC⟩ : ∃ C, cmp3 (n : Int) (m : Int) = C := ⟨_, rfl⟩
  obtain ⟨L, hL⟩ : ∃ L, lexR xs ys = L := ⟨_, rfl⟩
  rw [hC, hL] at hR
  have HR := hid hR
  have HC := hid hC
  have HL := hid hL
  have Hn := hid hn
  have Hm := hid hm
  have Hr := hid hr
  have Hr2 := hid hr2
  clear hR hC hL hn hm hr hr2
  go_enter Try.func47, Try.ntmps47
  go_wp2_with (first
    | (go_at_call 49; refine (cmpI_any _ _ _).mono ?_; rw [HC.out]; rintro e w' ⟨rfl, rfl⟩)
    | (go_at_call 50; refine (iLex_any _ _ _ _ _ _ _ _ xs ys _ Hn.out Hm.out hn2 hm2 Hr.out Hr2.out).mono ?_; rw [HL.out]; rintro e w' ⟨rfl, rfl⟩)
    | (go_at_call 48; refine (orI_any _ C L _ (by simp) (by simp)).mono ?_; rw [HR.out]; rintro e w' ⟨rfl, rfl⟩))
  go_ret
  exact ⟨rfl, 0, _, by rw [alloc_eq_grow]; rfl⟩

/- The sort of rows in blocks of their own. -/
def encJ (ps : List AcP) (i : Fin ps.length) : Value := acV ps[i]
theorem encJ_one (ps : List AcP) : OneCell (encJ ps) := fun _ => rfl
def cmpP (ps : List AcP) (i j : Fin ps.length) : Int := cmpR ps[i].2.2 ps[j].2.2
theorem cmpP_swo (ps : List AcP) : SWO (ltOf (cmpP ps)) where
  irrefl x := cmpR_swo.irrefl ps[x].2.2
  trans x y z := cmpR_swo.trans ps[x].2.2 ps[y].2.2 ps[z].2.2
  ntrans x y z := cmpR_swo.ntrans ps[x].2.2 ps[y].2.2 ps[z].2.2
theorem cmpP_total {ps : List AcP} (h : (ps.map fun p => p.2.2).Nodup) (i j : Fin ps.length) (h1 : ltOf (cmpP ps) i j = false) (h2 : ltOf (cmpP ps) j i = false) : i = j := by
  unfold ltOf cmpP at h1 h2
  rw [decide_eq_false_iff_not] at h1 h2
  have h3 := cmpR_eq _ _ h1 h2
  refine Fin.ext (nodup_inj h (by simp) (by simp) ?_)
  rw [List.getElem_map, List.getElem_map]
  exact h3
theorem sortWorld_other {α : Type} [Inhabited α] (enc : α → Value) (w : World) (g n : Nat) (d : Array α) (os : Array Obj) {k : Nat} (hk : k < w.heap.size) (hg : k ≠ g) : (sortWorld enc w g 0 n d os).heap[k]? = w.heap[k]? := by
  unfold sortWorld putRow grow mapBlock
  show ((w.heap.modify g _) ++ os)[k]? = _
  rw [Array.getElem?_append]
  rw [if_pos (by simp; omega), Array.getElem?_modify, if_neg (by omega)]
theorem grownBy_sortJ {α : Type} [Inhabited α] (enc : α → Value) {w : World} {g n : Nat} {os : Array Obj} (d : Array α) : w.grownBy (sortWorld enc w g 0 n d os) (some g) := by
  refine ⟨rfl, rfl, rfl, ?_, fun i hi h => sortWorld_other enc w g n d os hi (fun e => h (by rw [e]))⟩
  unfold sortWorld putRow grow mapBlock
  show w.heap.size ≤ ((w.heap.modify g _) ++ os).size
  simp
/-- The row's contents sorted are what is at the sorted places. -/
theorem sortJ_map (ps : List AcP) : (((List.finRange ps.length).mergeSort fun x y => !(ltOf (cmpP ps)) y x).map fun i => ps[i].2.2) = srtR (ps.map fun p => p.2.2) := by
  unfold srtR
  rw [List.map_mergeSort (r := fun x y => !(ltOf (cmpP ps)) y x) (s := fun x y => !(ltOf cmpR) y x) (f := fun (i : Fin ps.length) => ps[i].2.2) (fun a _ b _ => rfl)]
  congr 1
  refine List.ext_getElem (by simp) fun i h1 h2 => ?_
  simp

end Go.Proofs.Ytfdlhdgmbjdhbaa
