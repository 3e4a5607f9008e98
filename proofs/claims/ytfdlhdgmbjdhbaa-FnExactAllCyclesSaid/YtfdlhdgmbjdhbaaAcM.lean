/- The order of the cycles in the model: l07Before, l07Merge. -/
import Derived.Test.YtfdlhdgmbjdhbaaAcD
import Derived.Test.YtfdlhdgmbjdhbaaAcX
import Derived.Deep.RegionWith
import Derived.Deep.DeepCutAuto
namespace Go.Proofs.Ytfdlhdgmbjdhbaa
open Go.RowKit Go.Lib Go.Shelf

theorem eI_dropM {xs : List Int} {k : Nat} (h : k < xs.length) : xs.drop k = eI xs k :: xs.drop (k + 1) := by
  rw [List.drop_eq_getElem_cons h, eI_lt h]
theorem lexR_ne {a b : Int} (x y : List Int) (h : a ≠ b) : decide (lexR (a :: x) (b :: y) < 0) = decide (a < b) := by
  rw [lexR]
  by_cases h1 : a < b
  · simp [h1]
  · have h2 : b < a := by omega
    simp [h1, h2]
theorem lexR_same (a : Int) (x y : List Int) : lexR (a :: x) (a :: y) = lexR x y := by
  rw [lexR]
  simp

set_option maxRecDepth 100000 in
set_option maxHeartbeats 2000000 in
theorem sBefore_any (b o c b2 o2 c2 n m : Nat) (xs ys : List Int) (w : World) (hn : xs.length = n) (hm : ys.length = m) (hn2 : n ≤ 1048576) (hm2 : m ≤ 1048576) (hr : ReadsI w b o xs) (hr2 : ReadsI w b2 o2 ys) :
    Calls Try.prog 80 #[.slice (some ⟨b, o, none⟩) n c, .slice (some ⟨b2, o2, none⟩) m c2] w fun e w' => e = .returned (.bool (ltOf cmpR xs ys)) ∧ ∃ q, w' = w.drewN q := by
  obtain ⟨R, hR⟩ : ∃ R, ltOf cmpR xs ys = R := ⟨_, rfl⟩
  rw [hR]
  have HR := hid hR
  have Hn := hid hn
  have Hm := hid hm
  have Hr := hid hr
  have Hr2 := hid hr2
  clear hR hn hm hr hr2
  by_cases hnm : n = m
  · subst hnm
    have t1 : ((n : Int) != (n : Int)) = false := by simp
    have HL := hid (show decide (lexR xs ys < 0) = R by
      rw [← HR.out]
      unfold ltOf cmpR
      rw [if_neg (by rw [Hn.out, Hm.out]; omega), if_neg (by rw [Hn.out, Hm.out]; omega)])
    go_enter Try.func80, Try.ntmps80
    go_wp2
    go_loopw [5] (fun u wr => ∃ k : Nat, k ≤ n ∧ u = .int .i64 k ∧ Hid (∃ q, wr = w.drewN q) ∧ Hid (decide (lexR (xs.drop k) (ys.drop k) < 0) = R)) (fun u _ => n - (intOf u).toNat)
    case atStart => exact ⟨0, Nat.zero_le _, rfl, hid ⟨0, rfl⟩, hid (by simpa using HL.out)⟩
    case round =>
      obtain ⟨k, hk, rfl, hq, hl⟩ := hrel
      by_cases hlt : k < n
      · have hlt' : (k : Int) < (n : Int) := by omega
        obtain ⟨q0, hq0⟩ := hq.out
        have hc1 := Hr.out k (by rw [Hn.out]; exact hlt)
        have hc2 := Hr2.out k (by rw [Hm.out]; exact hlt)
        obtain ⟨x, hx⟩ : ∃ x, eI xs k = x := ⟨_, rfl⟩
        obtain ⟨y, hy⟩ : ∃ y, eI ys k = y := ⟨_, rfl⟩
        rw [hx] at hc1
        rw [hy] at hc2
        have hd := eI_dropM (xs := xs) (k := k) (by rw [Hn.out]; exact hlt)
        have hd2 := eI_dropM (xs := ys) (k := k) (by rw [Hm.out]; exact hlt)
        rw [hx] at hd
        rw [hy] at hd2
        have hs := hl.out
        rw [hd, hd2] at hs
        have hc1 : wr.cell? ⟨b, o + k, none⟩ = some (.int .i64 x) := by rw [hq0]; exact hc1
        have hc2 : wr.cell? ⟨b2, o2 + k, none⟩ = some (.int .i64 y) := by rw [hq0]; exact hc2
        have hbz := World.block_lt_of_cell? wr _ hc1
        have hbz2 := World.block_lt_of_cell? wr _ hc2
        dsimp only at hbz hbz2
        have HQ0 := hid hq0
        have HKL := hid hlt
        clear hx hy hd hd2 hq0 hlt
        by_cases hxy : x = y
        · have t2 : (x != y) = false := by simpa using hxy
          rw [hxy, lexR_same] at hs
          have HS := hid hs
          clear hs hxy
          go_wp2
          go_quiet (fail)
          go_wp2
          go_roundw
          case rel => exact ⟨k + 1, by have := HKL.out; omega, by go_num, hid ⟨q0 + nq, by rw [HQ0.out, World.drewN_drewN]⟩, HS⟩
          case measure => have := HKL.out; simp [intOf]; omega
        · have t2 : (x != y) = true := by simpa using hxy
          rw [lexR_ne _ _ hxy] at hs
          have HS := hid hs
          clear hs hxy
          go_wp2
          go_quiet (fail)
          go_wp2
          go_quiet (fail)
          go_wp2
          go_ret
          refine ⟨by rw [← HS.out]; rfl, ?_⟩
          rw [HQ0.out]
          simp only [World.drewN_drewN]
          exact ⟨_, rfl⟩
      · obtain rfl : k = n := by omega
        have hs := hl.out
        rw [List.drop_eq_nil_of_le (by rw [Hn.out]; exact Nat.le_refl _), List.drop_eq_nil_of_le (by rw [Hm.out]; exact Nat.le_refl _)] at hs
        have HS := hid hs
        clear hs
        go_wp2
        go_ret
        exact ⟨by rw [← HS.out]; rfl, hq.out⟩
  · have t1 : ((n : Int) != (m : Int)) = true := by simp; omega
    have HL := hid (show decide (n < m) = R by
      rw [← HR.out]
      unfold ltOf cmpR
      rw [Hn.out, Hm.out]
      by_cases h : n < m
      · rw [if_pos h]; simp; omega
      · rw [if_neg h, if_pos (by omega)]; simp; omega)
    go_enter Try.func80, Try.ntmps80
    go_wp2
    go_ret
    exact ⟨by rw [← HL.out]; rfl, 0, rfl⟩

theorem quiet_drewM {P : Program} {f : FuncId} {args : Array Value} {w : World} {n : Nat} {v : Value}
    (h : Calls P f args (w.drewN n) fun e w' => e = .returned v ∧ ∃ q, w' = (w.drewN n).drewN q) : Calls P f args (w.drewN n) fun e w'' => e = .returned v ∧ ∃ m, w'' = w.drewN m :=
  h.mono fun _ _ ⟨a, q, b⟩ => ⟨a, n + q, by rw [b, World.drewN_drewN]⟩
/- Rows of numbers, and a list of their headers. -/
def leP (p q : AcP) : Bool := !(ltOf cmpR) q.2.2 p.2.2
theorem leP_trans (a b c : AcP) (h1 : leP a b = true) (h2 : leP b c = true) : leP a c = true := by
  unfold leP at *
  rw [Bool.not_eq_true'] at *
  exact cmpR_swo.ntrans _ _ _ h2 h1
theorem leP_total (a b : AcP) : (leP a b || leP b a) = true := by
  unfold leP
  by_cases h : ltOf cmpR b.2.2 a.2.2 = true
  · have h2 : ltOf cmpR a.2.2 b.2.2 = false := by
      by_cases k : ltOf cmpR a.2.2 b.2.2 = true
      · have e := cmpR_swo.trans _ _ _ h k
        rw [cmpR_swo.irrefl] at e
        cases e
      · simpa using k
    rw [h2]; simp
  · rw [Bool.not_eq_true] at h
    rw [h]; simp
structure RowsV (w : World) (q : Option Addr) (ps : List AcP) : Prop where
  rows : ∀ p, p ∈ ps → ReadsI w p.1 0 p.2.2 ∧ p.2.2.length ≤ 1048576
  head : ps = [] ∨ ∃ b o, q = some ⟨b, o, none⟩ ∧ ∀ i p, ps[i]? = some p → w.cell? ⟨b, o + i, none⟩ = some (acV p)
theorem RowsV.on {w w' : World} {q : Option Addr} {ps : List AcP} (h : RowsV w q ps) (hb : Below w.heap.size w w') : RowsV w' q ps := by
  refine ⟨fun p hp => ⟨(h.rows p hp).1.on hb, (h.rows p hp).2⟩, ?_⟩
  rcases h.head with h0 | ⟨b, o, hq, hc⟩
  · exact .inl h0
  · refine .inr ⟨b, o, hq, fun i p hp => ?_⟩
    have h1 := hc i p hp
    have h2 : b < w.heap.size := World.block_lt_of_cell? w ⟨b, o + i, none⟩ h1
    exact (World.cell?_of_block (w := w) (a := ⟨b, o + i, none⟩) (hb.block b h2)).trans h1
theorem RowsV.take {w : World} {b o : Nat} {ps : List AcP} (h : RowsV w (some ⟨b, o, none⟩) ps) (k : Nat) : RowsV w (some ⟨b, o, none⟩) (ps.take k) := by
  refine ⟨fun p hp => h.rows p (List.mem_of_mem_take hp), ?_⟩
  rcases h.head with h0 | ⟨b', o', hq, hc⟩
  · exact .inl (by rw [h0]; simp)
  · obtain ⟨rfl, rfl⟩ : b = b' ∧ o = o' := by cases hq; exact ⟨rfl, rfl⟩
    refine .inr ⟨b, o, rfl, fun i p hp => hc i p ?_⟩
    rw [List.getElem?_take] at hp
    split at hp
    · exact hp
    · cases hp
theorem RowsV.drop {w : World} {b o : Nat} {ps : List AcP} (h : RowsV w (some ⟨b, o, none⟩) ps) (k : Nat) : RowsV w (some ⟨b, o + k, none⟩) (ps.drop k) := by
  refine ⟨fun p hp => h.rows p (List.mem_of_mem_drop hp), ?_⟩
  rcases h.head with h0 | ⟨b', o', hq, hc⟩
  · exact .inl (by rw [h0]; simp)
  · obtain ⟨rfl, rfl⟩ : b = b' ∧ o = o' := by cases hq; exact ⟨rfl, rfl⟩
    refine .inr ⟨b, o + k, rfl, fun i p hp => ?_⟩
    rw [List.getElem?_drop] at hp
    rw [Nat.add_assoc]
    exact hc _ p hp
theorem RowsV.sees {w : World} {q : Option Addr} {ps : List AcP} (h : RowsV w q ps) {i : Nat} (hi : i < ps.length) : ∃ b o p, q = some ⟨b, o, none⟩ ∧ ps[i]? = some p ∧ w.cell? ⟨b, o + i, none⟩ = some (acV p) ∧ ReadsI w p.1 0 p.2.2 ∧ p.2.2.length ≤ 1048576 := by
  rcases h.head with h0 | ⟨b, o, hq, hc⟩
  · rw [h0] at hi; simp at hi
  · exact ⟨b, o, ps[i], hq, List.getElem?_eq_getElem hi, hc i _ (List.getElem?_eq_getElem hi), (h.rows _ (List.getElem_mem hi)).1, (h.rows _ (List.getElem_mem hi)).2⟩
theorem drop_some {α : Type} {l : List α} {i : Nat} {x : α} (h : l[i]? = some x) : l.drop i = x :: l.drop (i + 1) := by
  obtain ⟨hi, e⟩ := List.getElem?_eq_some_iff.1 h
  rw [List.drop_eq_getElem_cons hi, e]
/-- What is put on is the list's next. -/
theorem merge_one {xs ys : List AcP} {I K : Nat} {x y : AcP} (hx : xs[I]? = some x) (hy : ys[K]? = some y) (h : leP x y = true) : List.merge (xs.drop I) (ys.drop K) leP = x :: List.merge (xs.drop (I + 1)) (ys.drop K) leP := by
  rw [drop_some hx, drop_some hy, List.cons_merge_cons_pos _ _ _ h]
theorem merge_two {xs ys : List AcP} {I K : Nat} {x y : AcP} (hx : xs[I]? = some x) (hy : ys[K]? = some y) (h : leP x y = false) : List.merge (xs.drop I) (ys.drop K) leP = y :: List.merge (xs.drop I) (ys.drop (K + 1)) leP := by
  rw [drop_some hx, drop_some hy, List.cons_merge_cons_neg _ _ _ (by rw [h]; simp)]
theorem merge_end1 {xs ys : List AcP} {I K : Nat} {x : AcP} (hx : xs[I]? = some x) (hy : K = ys.length) : List.merge (xs.drop I) (ys.drop K) leP = x :: List.merge (xs.drop (I + 1)) (ys.drop K) leP := by
  subst hy
  rw [drop_some hx, List.drop_length]
  simp
theorem merge_end2 {xs ys : List AcP} {I K : Nat} {y : AcP} (hx : I = xs.length) (hy : ys[K]? = some y) : List.merge (xs.drop I) (ys.drop K) leP = y :: List.merge (xs.drop I) (ys.drop (K + 1)) leP := by
  subst hx
  rw [drop_some hy, List.drop_length]
  simp

/-- What lies there while two lists are put together. -/
structure StM (w2 : World) (xs ys : List AcP) (I K : Nat) (q : Option Addr) (cap : Nat) (qs : List AcP) (W : World) : Prop where
  row : W.ownsRow w2.heap.size 41 1 (.slice q qs.length cap) qs.length (qs.map acV)
  con : qs ++ List.merge (xs.drop I) (ys.drop K) leP = List.merge xs ys leP
  len : qs.length = I + K
  bw : Below w2.heap.size w2 W
theorem stM_on {w2 W W' : World} {xs ys : List AcP} {I K : Nat} {q : Option Addr} {cap : Nat} {qs : List AcP} (h : StM w2 xs ys I K q cap qs W) (hb : Below W.heap.size W W') : StM w2 xs ys I K q cap qs W' :=
  ⟨rowN_same h.row (fun i _ _ _ _ hc => hb.block i (Array.getElem?_eq_some_iff.1 hc).1), h.con, h.len, bfrom h.bw hb⟩
theorem stM_next {w2 W w8 : World} {xs ys : List AcP} {I K I' K' : Nat} {q : Option Addr} {cap g8 cap8 P : Nat} {qs : List AcP} {x : AcP} (h : StM w2 xs ys I K q cap qs W) (hP : qs.length = P) (hg : W.grownBy w8 (Value.slice q P cap).ownBlock) (hr : w8.ownsRow w2.heap.size 41 1 (.slice (some ⟨g8, 0, none⟩) (P + 1) cap8) (P + 1) (qs.map acV ++ [acV x]))
    (hm : List.merge (xs.drop I) (ys.drop K) leP = x :: List.merge (xs.drop I') (ys.drop K') leP) (hIK : I' + K' = I + K + 1) : StM w2 xs ys I' K' (some ⟨g8, 0, none⟩) cap8 (qs ++ [x]) w8 := by
  have hrow := h.row
  rw [hP] at hrow
  refine ⟨?_, ?_, by rw [List.length_append, h.len, hIK]; rfl, ?_⟩
  · rw [List.length_append, hP, List.map_append]; exact hr
  · rw [List.append_assoc, List.singleton_append, ← hm]; exact h.con
  · exact h.bw.grown hg h.bw.size (fun j hj => by have := (hrow.lt j hj).1; omega)

set_option maxRecDepth 100000 in
set_option maxHeartbeats 16000000 in
theorem sMerge_step (n : Nat) (ps : List AcP) (q0 : Option Addr) (c : Nat) (w : World) (hn : ps.length = n) (hm : n ≤ 1048576) (hc : n ≤ c) (hr : RowsV w q0 ps) (h2 : 2 ≤ n)
    (IH : ∀ (qs : List AcP) (b o k c : Nat) (W : World), qs.length = k → k < n → k ≤ c → RowsV W (some ⟨b, o, none⟩) qs → Calls Try.prog 43 #[.slice (some ⟨b, o, none⟩) k c] W fun e w' => ∃ q' c' qs', e = .returned (.slice q' k c') ∧ qs'.Perm qs ∧ qs'.Pairwise (fun x y => leP x y = true) ∧ RowsV w' q' qs' ∧ Below W.heap.size W w') :
    Calls Try.prog 43 #[.slice q0 n c] w fun e w' => ∃ q' c' qs', e = .returned (.slice q' n c') ∧ qs'.Perm ps ∧ qs'.Pairwise (fun x y => leP x y = true) ∧ RowsV w' q' qs' ∧ Below w.heap.size w w' := by
  obtain ⟨s0, hsi, hs0, hs1, hs2⟩ := info_parts infoSlN
  have Hs := hid hsi
  obtain ⟨b, o, _, hq0, _, _, _, _⟩ := hr.sees (i := 0) (by omega)
  subst hq0
  obtain ⟨H, hH⟩ : ∃ H, n / 2 = H := ⟨_, rfl⟩
  obtain ⟨M, hM⟩ : ∃ M, n - H = M := ⟨_, rfl⟩
  have e1 : Int.tdiv (n : Int) 2 = (H : Int) := by rw [Int.tdiv_eq_ediv_of_nonneg (by omega)]; omega
  have e2 : IntKind.i64.wrap (H : Int) = (H : Int) := IntWalk.i64_in _ (by omega)
  have hHn : H ≤ n := by omega
  have hHc : H ≤ c := by omega
  have hcH : ¬ c = H := by omega
  have t1 : decide ((n : Int) < 2) = false := decide_eq_false (by omega)
  have HN := hid (show H < n ∧ M < n ∧ H + M = n ∧ n ≤ 1048576 ∧ M ≤ c - H by omega)
  have Hn := hid hn
  have Hr := hid hr
  have HIH := hid IH
  have HT := hid (show (ps.take H).length = H by rw [List.length_take, hn]; omega)
  have HD := hid (show (ps.drop H).length = M by rw [List.length_drop, hn]; omega)
  clear hsi hn hr IH hH h2 hm hc
  go_enter Try.func43, Try.ntmps43
  go_upto_region 3 with fail
  refine wp_region_held_drew (S := fun _ => True) (by kernel_rfl) trivial (fun hHeld => ?_)
  refine wpAnyH_take (i := 0) (v := .slice (some ⟨b, o, none⟩) n c) rfl (by kernel_rfl) (by kernel_rfl) (by kernel_rfl) (fun _ _ _ h => h) (Or.inl ⟨by rfl, fun w' _ => ?_⟩) (by assumption) ?_
  · go_simp
  simp only [Act.put, List.getElem_toArray, List.getElem_cons_zero, List.setIfInBounds_toArray, List.set_cons_zero, List.set_cons_succ]
  refine wpAnyH_take (i := 1) (v := .slice (some ⟨b, o, none⟩) n c) rfl (by kernel_rfl) (by kernel_rfl) (by kernel_rfl) (fun _ _ _ h => h) (Or.inl ⟨by rfl, fun w' _ => ?_⟩) (by assumption) ?_
  · go_simp
  simp only [Act.put, List.getElem_toArray, List.getElem_cons_zero, List.getElem_cons_succ, List.setIfInBounds_toArray, List.set_cons_zero, List.set_cons_succ]
  refine wpAnyH_take (i := 2) (v := .int .i64 (n : Int)) rfl (by kernel_rfl) (by kernel_rfl) (by kernel_rfl) (fun _ _ _ h => h) (Or.inl ⟨by rfl, fun w' _ => ?_⟩) (by assumption) ?_
  · go_simp
  simp only [Act.put, List.getElem_toArray, List.getElem_cons_zero, List.getElem_cons_succ, List.setIfInBounds_toArray, List.set_cons_zero, List.set_cons_succ]
  refine wpAnyH_take (i := 3) (v := .int .i64 (H : Int)) rfl (by kernel_rfl) (by kernel_rfl) (by kernel_rfl) (fun _ _ _ h => h) (Or.inl ⟨by rfl, fun w' _ => ?_⟩) (by assumption) ?_
  · go_simp
  simp only [Act.put, List.getElem_toArray, List.getElem_cons_zero, List.getElem_cons_succ, List.setIfInBounds_toArray, List.set_cons_zero, List.set_cons_succ]
  refine wpAnyH_take (i := 4) (v := .slice (some ⟨b, o, none⟩) H c) rfl (by kernel_rfl) (by kernel_rfl) (by kernel_rfl) (fun _ _ _ h => h) (Or.inl ⟨by rfl, fun w' _ => ?_⟩) (by assumption) ?_
  · go_simp
  simp only [Act.put, List.getElem_toArray, List.getElem_cons_zero, List.getElem_cons_succ, List.setIfInBounds_toArray, List.set_cons_zero, List.set_cons_succ]
  refine wpAnyH_take (i := 6) (v := .slice (some ⟨b, o, none⟩) n c) rfl (by kernel_rfl) (by kernel_rfl) (by kernel_rfl) (fun _ _ _ h => h) (Or.inl ⟨by rfl, fun w' _ => ?_⟩) (by assumption) ?_
  · go_simp
  simp only [Act.put, List.getElem_toArray, List.getElem_cons_zero, List.getElem_cons_succ, List.setIfInBounds_toArray, List.set_cons_zero, List.set_cons_succ]
  refine wpAnyH_take (i := 7) (v := .slice (some ⟨b, o, none⟩) n c) rfl (by kernel_rfl) (by kernel_rfl) (by kernel_rfl) (fun _ _ _ h => h) (Or.inl ⟨by rfl, fun w' _ => ?_⟩) (by assumption) ?_
  · go_simp
  simp only [Act.put, List.getElem_toArray, List.getElem_cons_zero, List.getElem_cons_succ, List.setIfInBounds_toArray, List.set_cons_zero, List.set_cons_succ]
  refine wpAnyH_take (i := 8) (v := .int .i64 (n : Int)) rfl (by kernel_rfl) (by kernel_rfl) (by kernel_rfl) (fun _ _ _ h => h) (Or.inl ⟨by rfl, fun w' _ => ?_⟩) (by assumption) ?_
  · go_simp
  simp only [Act.put, List.getElem_toArray, List.getElem_cons_zero, List.getElem_cons_succ, List.setIfInBounds_toArray, List.set_cons_zero, List.set_cons_succ]
  refine wpAnyH_take (i := 9) (v := .int .i64 (H : Int)) rfl (by kernel_rfl) (by kernel_rfl) (by kernel_rfl) (fun _ _ _ h => h) (Or.inl ⟨by rfl, fun w' _ => ?_⟩) (by assumption) ?_
  · go_simp
  simp only [Act.put, List.getElem_toArray, List.getElem_cons_zero, List.getElem_cons_succ, List.setIfInBounds_toArray, List.set_cons_zero, List.set_cons_succ]
  refine wpAnyH_take (i := 10) (v := .slice (some ⟨b, o + H, none⟩) (n - H) (c - H)) rfl (by kernel_rfl) (by kernel_rfl) (by kernel_rfl) (fun _ _ _ h => h) (Or.inl ⟨by rfl, fun w' _ => ?_⟩) (by assumption) ?_
  · go_simp
  simp only [Act.put, List.getElem_toArray, List.getElem_cons_zero, List.getElem_cons_succ, List.setIfInBounds_toArray, List.set_cons_zero, List.set_cons_succ]
  refine wpAnyH_ready (rs := [5]) (by kernel_rfl) (by simp) ?_
  refine AllReadyH.cons rfl (fun K hK => ?_) AllReadyH.nil
  go_simp
  refine (HIH.out (ps.take H) b o H c _ HT.out HN.out.1 hHc ((Hr.out.take H).on (show Below w.heap.size w w.drew from (Below.refl _ _).drew))).mono ?_
  rintro e' w1 ⟨q1, c1, s1, rfl, hp1, hw1, hv1, hb1⟩
  have HP1 := hid hp1
  have HW1 := hid hw1
  have HV1 := hid hv1
  have HB1 := hid (bfrom (w := w) (show Below w.heap.size w w.drew from (Below.refl _ _).drew) hb1)
  clear hp1 hw1 hv1 hb1
  refine hK.out _ _ trivial (fun _ => ?_)
  clear hK K
  refine wpAnyH_ready (rs := [11]) (by kernel_rfl) (by simp) ?_
  refine AllReadyH.cons rfl (fun K hK => ?_) AllReadyH.nil
  go_simp
  refine (HIH.out (ps.drop H) b (o + H) M (c - H) _ HD.out HN.out.2.1 HN.out.2.2.2.2 ((Hr.out.drop H).on HB1.out)).mono ?_
  rintro e' w2 ⟨q2, c2, s2, rfl, hp2, hw2, hv2, hb2⟩
  have HP2 := hid hp2
  have HW2 := hid hw2
  have HV2 := hid hv2
  have HV1' := hid (HV1.out.on hb2)
  have HB2 := hid (bfrom HB1.out hb2)
  clear hp2 hw2 hv2 hb2
  refine hK.out _ _ trivial (fun _ => ?_)
  clear hK K
  refine wpAnyH_ready (rs := [12]) (by kernel_rfl) (by simp) ?_
  refine AllReadyH.cons rfl (fun K hK => ?_) AllReadyH.nil
  go_simp
  refine hK.out _ _ trivial (fun _ => ?_)
  clear hK K
  refine wpAnyH_ready (rs := [13]) (by kernel_rfl) (by simp) ?_
  refine AllReadyH.cons rfl (fun K hK => ?_) AllReadyH.nil
  go_simp
  refine hK.out _ _ trivial (fun _ => ?_)
  clear hK K
  refine wpAnyH_done (by kernel_rfl) ?_ _

  go_wp2_with fail
  have HL1 := hid (HP1.out.length_eq.trans HT.out)
  have HL2 := hid (HP2.out.length_eq.trans HD.out)
  obtain ⟨b1, o1, _, hq1, _, _, _, _⟩ := HV1'.out.sees (i := 0) (by rw [HL1.out]; have := HN.out; omega)
  obtain ⟨b2, o2, _, hq2, _, _, _, _⟩ := HV2.out.sees (i := 0) (by rw [HL2.out]; have := HN.out; omega)
  subst hq1 hq2
  have HV2' := HV2
  have HS0 := hid (show StM w2 s1 s2 0 0 (some ⟨w2.heap.size, 0, none⟩) 0 [] (w2.alloc (.cells #[] 41)) from ⟨World.ownsRow_made (base := w2.heap.size) (e := 41) (size := 1) w2 #[] 0 (Nat.le_refl _) (Nat.zero_le _) rfl, by simp, rfl, on_alloc _ _⟩)
  go_loopw [5, 6, 7] (fun u i k wr => ∃ (I K P cap : Nat) (q : Option Addr) (qs : List AcP), I ≤ H ∧ K ≤ M ∧ u = .slice q P cap ∧ i = .int .i64 I ∧ k = .int .i64 K ∧ Hid (P = I + K) ∧ Hid (qs.length = P) ∧ Hid (StM w2 s1 s2 I K q cap qs wr)) (fun _ i k _ => (H - (intOf i).toNat) + (M - (intOf k).toNat))
  case atStart => exact ⟨0, 0, 0, 0, _, [], Nat.zero_le _, Nat.zero_le _, rfl, rfl, rfl, hid rfl, hid rfl, HS0⟩
  case round =>
    clear HS0
    obtain ⟨I, K, P, cap, q, qs, hI, hK, rfl, rfl, rfl, hPIK, HP, hS⟩ := hrel
    obtain ⟨wo, rfl⟩ : ∃ wo : World, wo = wr := ⟨_, rfl⟩
    have hNN := HN.out
    have hPb : P ≤ 1048576 := by have := hPIK.out; omega
    by_cases hIH : I < H
    · have tI : decide ((I : Int) < (H : Int)) = true := decide_eq_true (by omega)
      have hI' : (I : Int) < (H : Int) := by omega
      obtain ⟨b', o', x1, hq1, hx1, hc1, hr1, hm1⟩ := HV1'.out.sees (i := I) (by rw [HL1.out]; omega)
      obtain ⟨rfl, rfl⟩ : b1 = b' ∧ o1 = o' := by cases hq1; exact ⟨rfl, rfl⟩
      obtain ⟨⟨g1, k1, r1⟩, hy1⟩ : ∃ z, x1 = z := ⟨_, rfl⟩
      obtain ⟨l1, hl1⟩ : ∃ l, r1.length = l := ⟨_, rfl⟩
      have hv1 : acV x1 = .slice (some ⟨g1, 0, none⟩) l1 k1 := by rw [hy1, ← hl1]; rfl
      have hbw1 : b1 < w2.heap.size := World.block_lt_of_cell? w2 ⟨b1, o1 + I, none⟩ hc1
      have hc1 : wo.cell? ⟨b1, o1 + I, none⟩ = some (.slice (some ⟨g1, 0, none⟩) l1 k1) := by rw [← hv1]; exact (World.cell?_of_block (w := w2) (a := ⟨b1, o1 + I, none⟩) (hS.out.bw.block b1 hbw1)).trans hc1
      have hbl1 : b1 < wo.heap.size := Nat.lt_of_lt_of_le hbw1 hS.out.bw.size
      have hr1 : ReadsI wo g1 0 r1 ∧ l1 ≤ 1048576 := by rw [hy1] at hr1 hm1; exact ⟨hr1.on hS.out.bw, by rw [← hl1]; exact hm1⟩
      have HX1 := hid (And.intro hx1 hv1)
      by_cases hKM : K < M
      · have tK : ((K : Int) == (M : Int)) = false := by simp; omega
        have hK' : (K : Int) < (M : Int) := by omega
        obtain ⟨b', o', x2, hq2, hx2, hc2, hr2, hm2⟩ := HV2'.out.sees (i := K) (by rw [HL2.out]; omega)
        obtain ⟨rfl, rfl⟩ : b2 = b' ∧ o2 = o' := by cases hq2; exact ⟨rfl, rfl⟩
        obtain ⟨⟨g2, k2, r2⟩, hy2⟩ : ∃ z, x2 = z := ⟨_, rfl⟩
        obtain ⟨l2, hl2⟩ : ∃ l, r2.length = l := ⟨_, rfl⟩
        have hv2 : acV x2 = .slice (some ⟨g2, 0, none⟩) l2 k2 := by rw [hy2, ← hl2]; rfl
        have hbw2 : b2 < w2.heap.size := World.block_lt_of_cell? w2 ⟨b2, o2 + K, none⟩ hc2
        have hc2 : wo.cell? ⟨b2, o2 + K, none⟩ = some (.slice (some ⟨g2, 0, none⟩) l2 k2) := by rw [← hv2]; exact (World.cell?_of_block (w := w2) (a := ⟨b2, o2 + K, none⟩) (hS.out.bw.block b2 hbw2)).trans hc2
        have hbl2 : b2 < wo.heap.size := Nat.lt_of_lt_of_le hbw2 hS.out.bw.size
        have hr2 : ReadsI wo g2 0 r2 ∧ l2 ≤ 1048576 := by rw [hy2] at hr2 hm2; exact ⟨hr2.on hS.out.bw, by rw [← hl2]; exact hm2⟩
        have HX2 := hid (And.intro hx2 hv2)
        have HIK := hid (And.intro hIH hKM)
        obtain ⟨B', hB'⟩ : ∃ B', ltOf cmpR r2 r1 = B' := ⟨_, rfl⟩
        have HLe0 := hid (show leP x1 x2 = !B' by unfold leP; rw [hy1, hy2, hB'])
        have HCB := hid (fun (nn : Nat) => (show Calls Try.prog 80 #[.slice (some ⟨g2, 0, none⟩) l2 k2, .slice (some ⟨g1, 0, none⟩) l1 k1] (wo.drewN nn) fun e w' => e = .returned (.bool B') ∧ ∃ q, w' = (wo.drewN nn).drewN q by
          rw [← hB']
          exact sBefore_any g2 0 k2 g1 0 k1 l2 l1 r2 r1 (wo.drewN nn) hl2 hl1 hr2.2 hr1.2 hr2.1 hr1.1))
        clear hq1 hq2 hx1 hx2 hv1 hv2 hbw1 hbw2 hr1 hr2 hm1 hm2 hy1 hy2 hl1 hl2 hB' hIH hKM
        cases B'
        · have HLe := hid (show leP x1 x2 = true from HLe0.out)
          clear HLe0
          have HS := hid hS.out
          clear hS
          go_wp2_with fail
          go_quiet ((go_at_call 80; exact quiet_drewM (HCB.out _)))
          obtain ⟨w5, hw5⟩ : ∃ w5, w5 = wo.drewN nq := ⟨_, rfl⟩
          have HS5 := hid (stM_on HS.out (show Below wo.heap.size wo w5 by rw [hw5]; exact bdn.mpr (Below.refl _ _)))
          have hc5 : w5.cell? ⟨b1, o1 + I, none⟩ = some (.slice (some ⟨g1, 0, none⟩) l1 k1) := by rw [hw5]; exact hc1
          have hb5 : b1 < w5.heap.size := by rw [hw5]; exact hbl1
          have hz5 : w2.heap.size ≤ w5.heap.size := HS5.out.bw.size
          rw [← hw5]
          clear hw5 hc1 hbl1 hc2 hbl2
          go_wp2_with (at_builtin; go_must (refine wpList_append_lies _ rfl (.tmp 57) (.tmp 62) 35 rfl w2.heap.size 41 s0 (.slice none 0 0) 1 24 Try.underlying35 Hs.out hs0 hs1 hs2 rfl (by decide) (.slice q P cap) P (qs.map acV) rfl (by have h := HS5.out.row; rw [HP.out] at h; exact h.alloc _) ⟨w5.heap.size, 0, none⟩ 1 1 [.slice (some ⟨g1, 0, none⟩) l1 k1] rfl rfl (World.news_of_block (cs := #[.slice (some ⟨g1, 0, none⟩) l1 k1]) (t := 41) (fr := (0, 0)) (heap_alloc_new _ _)) (by simp [Value.oneCell']) (by decide) (by unfold maxLen; omega) (by omega) (by simp; omega) (w5.heap.size + 1) (by simp) ?_); intro g8 cap8 w8 hown8 hgrow8 hlie8 hg8; have Hown8 := hid hown8; have Hgrow8 := hid hgrow8; clear hown8 hgrow8 hlie8)
          have HS8 := hid (stM_next (x := x1) (I' := (I + 1)) (K' := K) (stM_on HS5.out (on_alloc w5 _)) HP.out Hgrow8.out (by rw [HX1.out.2]; exact Hown8.out) (merge_one HX1.out.1 HX2.out.1 HLe.out) (by omega))
          have HP8 := hid (show (qs ++ [x1]).length = P + 1 by rw [List.length_append, HP.out]; rfl)
          go_wp2
          go_roundw
          case rel => exact ⟨(I + 1), K, P + 1, cap8, some ⟨g8, 0, none⟩, qs ++ [x1], by have := HIK.out; omega, by have := HIK.out; omega, rfl, by first | rfl | go_num, by first | rfl | go_num, hid (by have := hPIK.out; omega), HP8, HS8⟩
          case measure => have := HIK.out; simp [intOf]; omega
        · have HLe := hid (show leP x1 x2 = false from HLe0.out)
          clear HLe0
          have HS := hid hS.out
          clear hS
          go_wp2_with fail
          go_quiet ((go_at_call 80; exact quiet_drewM (HCB.out _)))
          obtain ⟨w5, hw5⟩ : ∃ w5, w5 = wo.drewN nq := ⟨_, rfl⟩
          have HS5 := hid (stM_on HS.out (show Below wo.heap.size wo w5 by rw [hw5]; exact bdn.mpr (Below.refl _ _)))
          have hc5 : w5.cell? ⟨b2, o2 + K, none⟩ = some (.slice (some ⟨g2, 0, none⟩) l2 k2) := by rw [hw5]; exact hc2
          have hb5 : b2 < w5.heap.size := by rw [hw5]; exact hbl2
          have hz5 : w2.heap.size ≤ w5.heap.size := HS5.out.bw.size
          rw [← hw5]
          clear hw5 hc1 hbl1 hc2 hbl2
          go_wp2_with (at_builtin; go_must (refine wpList_append_lies _ rfl (.tmp 66) (.tmp 71) 35 rfl w2.heap.size 41 s0 (.slice none 0 0) 1 24 Try.underlying35 Hs.out hs0 hs1 hs2 rfl (by decide) (.slice q P cap) P (qs.map acV) rfl (by have h := HS5.out.row; rw [HP.out] at h; exact h.alloc _) ⟨w5.heap.size, 0, none⟩ 1 1 [.slice (some ⟨g2, 0, none⟩) l2 k2] rfl rfl (World.news_of_block (cs := #[.slice (some ⟨g2, 0, none⟩) l2 k2]) (t := 41) (fr := (0, 0)) (heap_alloc_new _ _)) (by simp [Value.oneCell']) (by decide) (by unfold maxLen; omega) (by omega) (by simp; omega) (w5.heap.size + 1) (by simp) ?_); intro g8 cap8 w8 hown8 hgrow8 hlie8 hg8; have Hown8 := hid hown8; have Hgrow8 := hid hgrow8; clear hown8 hgrow8 hlie8)
          have HS8 := hid (stM_next (x := x2) (I' := I) (K' := (K + 1)) (stM_on HS5.out (on_alloc w5 _)) HP.out Hgrow8.out (by rw [HX2.out.2]; exact Hown8.out) (merge_two HX1.out.1 HX2.out.1 HLe.out) (by omega))
          have HP8 := hid (show (qs ++ [x2]).length = P + 1 by rw [List.length_append, HP.out]; rfl)
          go_wp2
          go_roundw
          case rel => exact ⟨I, (K + 1), P + 1, cap8, some ⟨g8, 0, none⟩, qs ++ [x2], by have := HIK.out; omega, by have := HIK.out; omega, rfl, by first | rfl | go_num, by first | rfl | go_num, hid (by have := hPIK.out; omega), HP8, HS8⟩
          case measure => have := HIK.out; simp [intOf]; omega
      · obtain rfl : K = M := by omega
        have HIK := hid hIH
        clear hq1 hx1 hv1 hbw1 hr1 hm1 hy1 hl1 hIH hKM
        have HS := hid hS.out
        clear hS
        go_wp2_with fail
        go_quiet (fail)
        obtain ⟨w5, hw5⟩ : ∃ w5, w5 = wo.drewN nq := ⟨_, rfl⟩
        have HS5 := hid (stM_on HS.out (show Below wo.heap.size wo w5 by rw [hw5]; exact bdn.mpr (Below.refl _ _)))
        have hc5 : w5.cell? ⟨b1, o1 + I, none⟩ = some (.slice (some ⟨g1, 0, none⟩) l1 k1) := by rw [hw5]; exact hc1
        have hb5 : b1 < w5.heap.size := by rw [hw5]; exact hbl1
        have hz5 : w2.heap.size ≤ w5.heap.size := HS5.out.bw.size
        rw [← hw5]
        clear hw5 hc1 hbl1
        go_wp2_with (at_builtin; go_must (refine wpList_append_lies _ rfl (.tmp 57) (.tmp 62) 35 rfl w2.heap.size 41 s0 (.slice none 0 0) 1 24 Try.underlying35 Hs.out hs0 hs1 hs2 rfl (by decide) (.slice q P cap) P (qs.map acV) rfl (by have h := HS5.out.row; rw [HP.out] at h; exact h.alloc _) ⟨w5.heap.size, 0, none⟩ 1 1 [.slice (some ⟨g1, 0, none⟩) l1 k1] rfl rfl (World.news_of_block (cs := #[.slice (some ⟨g1, 0, none⟩) l1 k1]) (t := 41) (fr := (0, 0)) (heap_alloc_new _ _)) (by simp [Value.oneCell']) (by decide) (by unfold maxLen; omega) (by omega) (by simp; omega) (w5.heap.size + 1) (by simp) ?_); intro g8 cap8 w8 hown8 hgrow8 hlie8 hg8; have Hown8 := hid hown8; have Hgrow8 := hid hgrow8; clear hown8 hgrow8 hlie8)
        have HS8 := hid (stM_next (x := x1) (I' := (I + 1)) (K' := K) (stM_on HS5.out (on_alloc w5 _)) HP.out Hgrow8.out (by rw [HX1.out.2]; exact Hown8.out) (merge_end1 HX1.out.1 (by rw [HL2.out])) (by omega))
        have HP8 := hid (show (qs ++ [x1]).length = P + 1 by rw [List.length_append, HP.out]; rfl)
        go_wp2
        go_roundw
        case rel => exact ⟨(I + 1), K, P + 1, cap8, some ⟨g8, 0, none⟩, qs ++ [x1], by have := HIK.out; omega, by have := HIK.out; omega, rfl, by first | rfl | go_num, by first | rfl | go_num, hid (by have := hPIK.out; omega), HP8, HS8⟩
        case measure => have := HIK.out; simp [intOf]; omega
    · obtain rfl : I = H := by omega
      by_cases hKM : K < M
      · have tK : ((K : Int) == (M : Int)) = false := by simp; omega
        have hK' : (K : Int) < (M : Int) := by omega
        obtain ⟨b', o', x2, hq2, hx2, hc2, hr2, hm2⟩ := HV2'.out.sees (i := K) (by rw [HL2.out]; omega)
        obtain ⟨rfl, rfl⟩ : b2 = b' ∧ o2 = o' := by cases hq2; exact ⟨rfl, rfl⟩
        obtain ⟨⟨g2, k2, r2⟩, hy2⟩ : ∃ z, x2 = z := ⟨_, rfl⟩
        obtain ⟨l2, hl2⟩ : ∃ l, r2.length = l := ⟨_, rfl⟩
        have hv2 : acV x2 = .slice (some ⟨g2, 0, none⟩) l2 k2 := by rw [hy2, ← hl2]; rfl
        have hbw2 : b2 < w2.heap.size := World.block_lt_of_cell? w2 ⟨b2, o2 + K, none⟩ hc2
        have hc2 : wo.cell? ⟨b2, o2 + K, none⟩ = some (.slice (some ⟨g2, 0, none⟩) l2 k2) := by rw [← hv2]; exact (World.cell?_of_block (w := w2) (a := ⟨b2, o2 + K, none⟩) (hS.out.bw.block b2 hbw2)).trans hc2
        have hbl2 : b2 < wo.heap.size := Nat.lt_of_lt_of_le hbw2 hS.out.bw.size
        have hr2 : ReadsI wo g2 0 r2 ∧ l2 ≤ 1048576 := by rw [hy2] at hr2 hm2; exact ⟨hr2.on hS.out.bw, by rw [← hl2]; exact hm2⟩
        have HX2 := hid (And.intro hx2 hv2)
        have HIK := hid hKM
        clear hq2 hx2 hv2 hbw2 hr2 hm2 hy2 hl2 hIH hKM
        have HS := hid hS.out
        clear hS
        go_wp2_with fail
        go_quiet (fail)
        obtain ⟨w5, hw5⟩ : ∃ w5, w5 = wo.drewN nq := ⟨_, rfl⟩
        have HS5 := hid (stM_on HS.out (show Below wo.heap.size wo w5 by rw [hw5]; exact bdn.mpr (Below.refl _ _)))
        have hc5 : w5.cell? ⟨b2, o2 + K, none⟩ = some (.slice (some ⟨g2, 0, none⟩) l2 k2) := by rw [hw5]; exact hc2
        have hb5 : b2 < w5.heap.size := by rw [hw5]; exact hbl2
        have hz5 : w2.heap.size ≤ w5.heap.size := HS5.out.bw.size
        rw [← hw5]
        clear hw5 hc2 hbl2
        go_wp2_with (at_builtin; go_must (refine wpList_append_lies _ rfl (.tmp 66) (.tmp 71) 35 rfl w2.heap.size 41 s0 (.slice none 0 0) 1 24 Try.underlying35 Hs.out hs0 hs1 hs2 rfl (by decide) (.slice q P cap) P (qs.map acV) rfl (by have h := HS5.out.row; rw [HP.out] at h; exact h.alloc _) ⟨w5.heap.size, 0, none⟩ 1 1 [.slice (some ⟨g2, 0, none⟩) l2 k2] rfl rfl (World.news_of_block (cs := #[.slice (some ⟨g2, 0, none⟩) l2 k2]) (t := 41) (fr := (0, 0)) (heap_alloc_new _ _)) (by simp [Value.oneCell']) (by decide) (by unfold maxLen; omega) (by omega) (by simp; omega) (w5.heap.size + 1) (by simp) ?_); intro g8 cap8 w8 hown8 hgrow8 hlie8 hg8; have Hown8 := hid hown8; have Hgrow8 := hid hgrow8; clear hown8 hgrow8 hlie8)
        have HS8 := hid (stM_next (x := x2) (I' := I) (K' := (K + 1)) (stM_on HS5.out (on_alloc w5 _)) HP.out Hgrow8.out (by rw [HX2.out.2]; exact Hown8.out) (merge_end2 (by rw [HL1.out]) HX2.out.1) (by omega))
        have HP8 := hid (show (qs ++ [x2]).length = P + 1 by rw [List.length_append, HP.out]; rfl)
        go_wp2
        go_roundw
        case rel => exact ⟨I, (K + 1), P + 1, cap8, some ⟨g8, 0, none⟩, qs ++ [x2], by have := HIK.out; omega, by have := HIK.out; omega, rfl, by first | rfl | go_num, by first | rfl | go_num, hid (by have := hPIK.out; omega), HP8, HS8⟩
        case measure => have := HIK.out; simp [intOf]; omega
      · obtain rfl : K = M := by omega
        obtain rfl : P = n := by have := hPIK.out; omega
        have hcon := hS.out.con
        rw [show s1.drop I = [] by rw [← HL1.out, List.drop_length], show s2.drop K = [] by rw [← HL2.out, List.drop_length]] at hcon
        have HCon := hid (show qs = List.merge s1 s2 leP by rw [← hcon]; simp)
        have HS := hid hS.out
        clear hcon hS
        go_wp2
        go_ret
        refine ⟨q, cap, qs, rfl, ?_, ?_, ⟨?_, ?_⟩, bfrom HB2.out HS.out.bw⟩
        · rw [HCon.out]
          have h := (List.merge_perm_append (xs := s1) (ys := s2) (le := leP)).trans (HP1.out.append HP2.out)
          rwa [List.take_append_drop] at h
        · rw [HCon.out]
          exact List.pairwise_merge leP_trans leP_total s1 s2 HW1.out HW2.out
        · intro p hp
          rw [HCon.out, List.mem_merge] at hp
          rcases hp with hp | hp
          · exact ⟨(HV1'.out.rows p hp).1.on HS.out.bw, (HV1'.out.rows p hp).2⟩
          · exact ⟨(HV2.out.rows p hp).1.on HS.out.bw, (HV2.out.rows p hp).2⟩
        · have h := HS.out.row
          rw [HP.out] at h
          obtain ⟨g9, rfl, _, _, hcl⟩ := row_cellA h (by omega)
          refine .inr ⟨g9, 0, rfl, fun i p hp => ?_⟩
          have h3 := hcl i (acV p) (by rw [List.getElem?_map, hp]; rfl)
          rw [Addr.add_lit] at h3
          exact h3

theorem sMerge_any (n : Nat) : ∀ (ps : List AcP) (q0 : Option Addr) (c : Nat) (w : World), ps.length = n → n ≤ 1048576 → n ≤ c ∨ n ≤ 1 → RowsV w q0 ps →
    Calls Try.prog 43 #[.slice q0 n c] w fun e w' => ∃ q' c' qs', e = .returned (.slice q' n c') ∧ qs'.Perm ps ∧ qs'.Pairwise (fun x y => leP x y = true) ∧ RowsV w' q' qs' ∧ Below w.heap.size w w' := by
  induction n using Nat.strongRecOn with
  | _ n ih =>
    intro ps q0 c w hn hm hc hr
    by_cases h2 : 2 ≤ n
    · exact sMerge_step n ps q0 c w hn hm (by omega) hr h2 (fun qs b o k c W h1 hk hc hr => ih k hk qs _ c W h1 (by omega) (.inl hc) hr)
    · have t1 : decide ((n : Int) < 2) = true := decide_eq_true (by omega)
      have Hr := hid hr
      have Hn := hid hn
      clear ih hr hn hc
      go_enter Try.func43, Try.ntmps43
      go_wp2
      go_ret
      refine ⟨q0, c, ps, rfl, List.Perm.refl _, ?_, Hr.out, Below.refl _ _⟩
      match ps, Hn.out with
      | [], _ => exact List.Pairwise.nil
      | [x], _ => simp
      | x :: y :: l, h => exact absurd h (by simp; omega)


end Go.Proofs.Ytfdlhdgmbjdhbaa
