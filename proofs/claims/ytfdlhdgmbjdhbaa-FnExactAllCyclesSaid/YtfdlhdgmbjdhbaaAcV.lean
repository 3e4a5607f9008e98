/- AllCycles at any argument, both sides. -/
import Derived.Test.YtfdlhdgmbjdhbaaAcP
import Derived.Test.YtfdlhdgmbjdhbaaAcM
namespace Go.Proofs.Ytfdlhdgmbjdhbaa
open Go.RowKit Go.Shelf

def fAllCycles (s : Int) (es : List (Int × Int)) : List (List Int) × Int := if IsG s es then (if s ≤ 12 then (srtR (acL es s.toNat es.length), 0) else ([], 3)) else ([], 1)
theorem sumLL_capV {Ls : List (List Int)} {m : Nat} (h : ∀ i, i < Ls.length → (lI Ls i).length ≤ m) : ∀ j, j ≤ Ls.length → sumLL Ls j ≤ j * m := by
  intro j
  induction j with
  | zero => intro _; simp [sumLL]
  | succ j ih =>
    intro hj
    have h1 := ih (by omega)
    have h2 := h j (by omega)
    show sumLL Ls j + (lI Ls j).length ≤ (j + 1) * m
    rw [Nat.add_mul]
    omega
theorem lI_inV {Ls : List (List Int)} {i : Nat} (h : i < Ls.length) : lI Ls i ∈ Ls := List.mem_of_getElem? (lI_lt h)
theorem isG_18 {s : Int} {es : List (Int × Int)} (g : IsG s es) (h : s ≤ 12) : es.length ≤ 18 ∧ s.toNat ≤ 12 := by
  have h1 := g.1.1.2.2.2
  have h2 := g.1.1.1
  omega
theorem isG_nat {s : Int} {es : List (Int × Int)} (g : IsG s es) : IsG (s.toNat : Int) es := by
  rw [Int.toNat_of_nonneg (by have := g.1.1.1; omega)]
  exact g
theorem fAllCycles_len (s : Int) (es : List (Int × Int)) (_ : es.length ≤ 1048576) : (fAllCycles s es).1.length ≤ 1048576 := by
  unfold fAllCycles
  split
  · rename_i g
    split
    · rename_i h
      show (srtR _).length ≤ _
      unfold srtR
      rw [List.length_mergeSort]
      have h1 := isG_18 g h
      have h2 := (acL_sum (acI_three (isG_nat g)) (N := s.toNat) (Nat.le_refl es.length) h1.2 h1.1).2
      omega
    · exact Nat.zero_le _
  · exact Nat.zero_le _
theorem fAllCycles_sum (s : Int) (es : List (Int × Int)) (_ : es.length ≤ 1048576) : 1 + sumLL (fAllCycles s es).1 (fAllCycles s es).1.length ≤ 1048576 := by
  unfold fAllCycles
  split
  · rename_i g
    split
    · rename_i h
      show 1 + sumLL (srtR _) (srtR _).length ≤ _
      have h1 := isG_18 g h
      have h2 := (acL_sum (acI_three (isG_nat g)) (N := s.toNat) (Nat.le_refl es.length) h1.2 h1.1).2
      have h3 := sumLL_capV (Ls := srtR (acL es s.toNat es.length)) (m := 12) (fun i hi => by
        have h4 := lI_inV hi
        unfold srtR at h4
        rw [List.mem_mergeSort] at h4
        have := acL_row h4
        unfold srtR
        omega) _ (Nat.le_refl _)
      have h5 : (srtR (acL es s.toNat es.length)).length ≤ 73728 := by unfold srtR; rw [List.length_mergeSort]; exact h2
      omega
    · decide
  · decide

theorem srtR_unique {L S : List (List Int)} (hp : S.Perm L) (hs : S.Pairwise fun x y => (!(ltOf cmpR) y x) = true) : S = srtR L := by
  unfold srtR
  refine List.Perm.eq_of_pairwise (le := fun x y => (!(ltOf cmpR) y x) = true) (fun a b _ _ h1 h2 => ?_) hs (List.pairwise_mergeSort (le := fun x y => !(ltOf cmpR) y x) (fun a b c h1 h2 => ?_) (fun a b => ?_) L) (hp.trans (List.mergeSort_perm _ _).symm)
  · rw [Bool.not_eq_true'] at h1 h2
    unfold ltOf at h1 h2
    rw [decide_eq_false_iff_not] at h1 h2
    exact cmpR_eq a b h2 h1
  · rw [Bool.not_eq_true'] at h1 h2 ⊢
    exact cmpR_swo.ntrans _ _ _ h2 h1
  · exact leP_total (0, 0, a) (0, 0, b)

theorem rowsV_of {w : World} {D B n cap : Nat} {q : Option Addr} {ps : List AcP} (hl : ps.length = n) (hrow : w.ownsRow D 41 1 (.slice q n cap) n (ps.map acV)) (hat : AcAt w B ps) (hlen : ∀ p, p ∈ ps → p.2.2.length ≤ 1048576) : RowsV w q ps := by
  refine ⟨fun p hp => ⟨(hat.own p hp).2.reads, hlen p hp⟩, ?_⟩
  by_cases h0 : n = 0
  · exact .inl (List.eq_nil_of_length_eq_zero (by omega))
  obtain ⟨g, rfl, _, _, hcl⟩ := row_cellA hrow (by omega)
  refine .inr ⟨g, 0, rfl, fun i p hp => ?_⟩
  have h := hcl i (acV p) (by rw [List.getElem?_map, hp]; rfl)
  rw [Addr.add_lit] at h
  exact h
theorem seesL_of {w : World} {q : Option Addr} {ps : List AcP} (h : RowsV w q ps) : SeesL w q (ps.map fun p => p.2.2) := by
  rcases h.head with h0 | ⟨b, o, hq, hc⟩
  · exact .inl (by rw [h0]; rfl)
  · refine .inr ⟨b, o, hq, fun i hi => ?_⟩
    rw [List.length_map] at hi
    have hli : lI (ps.map fun p => p.2.2) i = ps[i].2.2 := by
      unfold lI
      rw [List.getD_eq_getElem?_getD, List.getElem?_map, List.getElem?_eq_getElem hi]
      rfl
    rw [hli]
    exact ⟨_, _, hc i _ (List.getElem?_eq_getElem hi), .inr ⟨_, _, rfl, (h.rows _ (List.getElem_mem hi)).1⟩⟩

theorem fls_atV (i : Nat) (hi : i < 20) : ((#[.bool false, .bool false, .bool false, .bool false, .bool false, .bool false, .bool false, .bool false, .bool false, .bool false, .bool false, .bool false, .bool false, .bool false, .bool false, .bool false, .bool false, .bool false, .bool false, .bool false] : Array Value))[i]? = some (.bool (decide ((i : Int) ∈ ([] : List Int)))) := by
  rcases (by omega : i = 0 ∨ i = 1 ∨ i = 2 ∨ i = 3 ∨ i = 4 ∨ i = 5 ∨ i = 6 ∨ i = 7 ∨ i = 8 ∨ i = 9 ∨ i = 10 ∨ i = 11 ∨ i = 12 ∨ i = 13 ∨ i = 14 ∨ i = 15 ∨ i = 16 ∨ i = 17 ∨ i = 18 ∨ i = 19) with h | h | h | h | h | h | h | h | h | h | h | h | h | h | h | h | h | h | h | h <;> subst h <;> rfl

set_option maxRecDepth 100000 in
set_option maxHeartbeats 4000000 in
theorem sAc_no (s : Int) (p : Option Addr) (n c : Nat) (es : List (Int × Int)) (w : World) (hm : n ≤ 1048576) (hn : es.length = n) (hr : SeesE w p es) (g : ¬ IsG s es) :
    Calls Try.prog 13 #[.agg #[.int .i64 s, .slice p n c]] w fun e w' => e = .returned (.tuple #[.slice none 0 0, .int .i64 1]) ∧ Below w.heap.size w w' := by
  have Hn := hid hn
  have Hr := hid hr
  have G := hid g
  clear hn hr g
  go_enter Try.func13, Try.ntmps13
  go_wp2_with fail
  refine (sIs_any _ _ _ _ es _ (by omega) Hn.out (Hr.out.on (on_alloc _ _))).mono ?_
  rw [decide_eq_false G.out]
  rintro e' w2 ⟨rfl, hb2⟩
  have HB := hid (bfrom (w := w) (on_alloc _ _) hb2)
  clear hb2
  go_wp2
  go_ret2
  exact ⟨rfl, HB.out⟩

set_option maxRecDepth 100000 in
set_option maxHeartbeats 4000000 in
theorem sAc_big (s : Int) (p : Option Addr) (n c : Nat) (es : List (Int × Int)) (w : World) (hm : n ≤ 1048576) (hn : es.length = n) (hr : SeesE w p es) (g : IsG s es) (h12 : ¬ s ≤ 12) :
    Calls Try.prog 13 #[.agg #[.int .i64 s, .slice p n c]] w fun e w' => e = .returned (.tuple #[.slice none 0 0, .int .i64 3]) ∧ Below w.heap.size w w' := by
  have Hn := hid hn
  have Hr := hid hr
  have G := hid g
  have hd : decide (12 < s) = true := decide_eq_true (by omega)
  clear hn hr g h12
  go_enter Try.func13, Try.ntmps13
  go_wp2_with fail
  refine (sIs_any _ _ _ _ es _ (by omega) Hn.out (Hr.out.on (on_alloc _ _))).mono ?_
  rw [decide_eq_true G.out]
  rintro e' w2 ⟨rfl, hb2⟩
  have HX := hid ((Box.new w s p n c 28).on hb2)
  have HB := hid (bfrom (w := w) (on_alloc _ _) hb2)
  have hx := HX.out.1
  have hl := HX.out.lt
  clear hb2
  go_wp2
  go_ret2
  exact ⟨rfl, HB.out⟩

set_option maxRecDepth 100000 in
set_option maxHeartbeats 16000000 in
theorem sAc_yes (N b off n c : Nat) (es : List (Int × Int)) (w : World) (hn : es.length = n) (hr : ReadsE w b off es) (g : IsG N es) (h12 : N ≤ 12) :
    Calls Try.prog 13 #[.agg #[.int .i64 N, .slice (some ⟨b, off, none⟩) n c]] w fun e w' => ∃ q cap, e = .returned (.tuple #[.slice q (acL es N n).length cap, .int .i64 0]) ∧ SeesL w' q (srtR (acL es N n)) ∧ Below w.heap.size w w' := by
  have hn30 : n ≤ 30 := by have := isG_len g; omega
  have hbl : b < w.heap.size := reads_lt hr (by have := g.1.1.2.2.2; have := g.1.1.1; omega)
  have h18 := isG_18 g (by omega)
  have HSum := hid (acL_sum (acI_three g) (N := N) (Nat.le_refl es.length) h12 h18.1)
  rw [hn] at HSum
  have HRow := hid (fun (p : AcP) (ps : List AcP) (hp : ps.map (fun p => p.2.2) = acL es N n) (h : p ∈ ps) => (show p.2.2.length ≤ 1048576 by
    have h1 : p.2.2 ∈ acL es N n := by rw [← hp]; exact List.mem_map_of_mem h
    have := acL_row h1
    omega))
  have Hn := hid hn
  have Hr := hid hr
  have G := hid g
  obtain ⟨s, hs⟩ : ∃ s : Int, (N : Int) = s := ⟨_, rfl⟩
  have HS := hid hs
  have hd : decide (12 < s) = false := decide_eq_false (by omega)
  rw [hs]
  obtain ⟨PP, hPP⟩ : ∃ PP, (acL es N n).length = PP := ⟨_, rfl⟩
  rw [hPP] at HSum ⊢
  have HPP := hid hPP
  clear hn hr g h12 hs h18 hPP
  go_enter Try.func13, Try.ntmps13
  go_wp2_with fail
  refine (sIs_any _ _ _ _ es _ (by omega) Hn.out ((show SeesE w (some ⟨b, off, none⟩) es from .inr ⟨b, off, rfl, Hr.out⟩).on (on_alloc _ _))).mono ?_
  rw [decide_eq_true (by rw [← HS.out]; exact G.out)]
  rintro e' w2 ⟨rfl, hb2⟩
  have HX := hid ((Box.new w s (some ⟨b, off, none⟩) n c 28).on hb2)
  have HB := hid (bfrom (w := w) (on_alloc _ _) hb2)
  have HBx := hid ((hb2.block w.heap.size (by simp)).trans (heap_alloc_new w (.cells #[.int .i64 s, .slice (some ⟨b, off, none⟩) n c] 28)))
  have hx := HX.out.1
  have hy := HX.out.2
  have hl := HX.out.lt
  clear hb2
  go_wp2_with fail
  have h := sAll_any N b off n c es w2 Hn.out (Hr.out.on HB.out) G.out
  rw [HS.out] at h
  refine h.mono ?_
  clear h
  rintro e' w3 ⟨q, cap, ps, rfl, hrow, hmap, hat, hb3⟩
  obtain ⟨P, hP⟩ : ∃ P, ps.length = P := ⟨_, rfl⟩
  rw [hP] at hrow ⊢
  obtain rfl : P = PP := by rw [← HPP.out, ← hmap, List.length_map, hP]
  have hPb : P ≤ 1048576 := by have := HSum.out.2; omega
  have HB3 := hid (bfrom HB.out hb3)
  have HV := hid (rowsV_of hP hrow hat (fun p hp => HRow.out p ps hmap hp))
  have HMap := hid hmap
  have hcap : P ≤ cap ∨ P ≤ 1 := by
    rcases hrow.2 with ⟨_, h0⟩ | ⟨g', c', cur, hv, _, _, hc1, _⟩
    · right; omega
    · cases hv; left; exact hc1
  have HP := hid hP
  clear hrow hmap hat hb3 hP hx hy hl
  go_wp2_with fail
  refine (sMerge_any P ps q cap w3 HP.out hPb hcap HV.out).mono ?_
  rintro e' w4 ⟨q4, c4, qs, rfl, hperm, hpw, hv4, hb4⟩
  have HB4 := hid (bfrom HB3.out hb4)
  have HSr := hid (show qs.map (fun p => p.2.2) = srtR (acL es N n) by
    rw [← HMap.out]
    refine srtR_unique (hperm.map _) ?_
    rw [List.pairwise_map]
    exact hpw)
  have HV4 := hid hv4
  clear hperm hpw hv4 hb4 hcap
  go_wp2
  go_ret2
  exact ⟨q4, c4, rfl, by rw [← HSr.out]; exact seesL_of HV4.out, HB4.out⟩

set_option maxRecDepth 100000 in
set_option maxHeartbeats 4000000 in
theorem iAc_no (s : Int) (p : Option Addr) (n c : Nat) (es : List (Int × Int)) (w : World) (hm : n ≤ 1048576) (hn : es.length = n) (hr : SeesE w p es) (g : ¬ IsG s es) :
    Calls Try.prog 14 #[.agg #[.int .i64 s, .slice p n c]] w fun e w' => e = .returned (.tuple #[.slice none 0 0, .int .i64 1]) ∧ Below w.heap.size w w' := by
  have Hn := hid hn
  have Hr := hid hr
  have G := hid g
  clear hn hr g
  go_enter Try.func14, Try.ntmps14
  go_wp2_with fail
  refine (iIsGraph_any _ _ _ _ es _ (by omega) Hn.out (Hr.out.on (on_alloc _ _))).mono ?_
  rw [decide_eq_false G.out]
  rintro e' w2 ⟨rfl, hb2⟩
  have HB := hid (bfrom (w := w) (on_alloc _ _) hb2)
  clear hb2
  go_wp2
  go_ret2
  exact ⟨rfl, HB.out⟩

set_option maxRecDepth 100000 in
set_option maxHeartbeats 4000000 in
theorem iAc_big (s : Int) (p : Option Addr) (n c : Nat) (es : List (Int × Int)) (w : World) (hm : n ≤ 1048576) (hn : es.length = n) (hr : SeesE w p es) (g : IsG s es) (h12 : ¬ s ≤ 12) :
    Calls Try.prog 14 #[.agg #[.int .i64 s, .slice p n c]] w fun e w' => e = .returned (.tuple #[.slice none 0 0, .int .i64 3]) ∧ Below w.heap.size w w' := by
  have Hn := hid hn
  have Hr := hid hr
  have G := hid g
  have hd : decide (12 < s) = true := decide_eq_true (by omega)
  clear hn hr g h12
  go_enter Try.func14, Try.ntmps14
  go_wp2_with fail
  refine (iIsGraph_any _ _ _ _ es _ (by omega) Hn.out (Hr.out.on (on_alloc _ _))).mono ?_
  rw [decide_eq_true G.out]
  rintro e' w2 ⟨rfl, hb2⟩
  have HX := hid ((Box.new w s p n c 28).on hb2)
  have HB := hid (bfrom (w := w) (on_alloc _ _) hb2)
  have hx := HX.out.1
  have hl := HX.out.lt
  clear hb2
  go_wp2
  go_ret2
  exact ⟨rfl, HB.out⟩

set_option maxRecDepth 100000 in
set_option maxHeartbeats 16000000 in
theorem iAc_yes (N b off n c : Nat) (es : List (Int × Int)) (w : World) (hn : es.length = n) (hr : ReadsE w b off es) (g : IsG N es) (h12 : N ≤ 12) :
    Calls Try.prog 14 #[.agg #[.int .i64 N, .slice (some ⟨b, off, none⟩) n c]] w fun e w' => ∃ q cap, e = .returned (.tuple #[.slice q (acL es N n).length cap, .int .i64 0]) ∧ FreshP w.heap.size w' q (acL es N n).length (srtR (acL es N n)) ∧ Below w.heap.size w w' := by
  have hn30 : n ≤ 30 := by have := isG_len g; omega
  have hbl : b < w.heap.size := reads_lt hr (by have := g.1.1.2.2.2; have := g.1.1.1; omega)
  have h18 := isG_18 g (by omega)
  have HSum := hid (acL_sum (acI_three g) (N := N) (Nat.le_refl es.length) h12 h18.1)
  rw [hn] at HSum
  have HRow := hid (fun (p : AcP) (ps : List AcP) (hp : ps.map (fun p => p.2.2) = acL es N n) (h : p ∈ ps) => (show p.2.2.length ≤ 1048576 by
    have h1 : p.2.2 ∈ acL es N n := by rw [← hp]; exact List.mem_map_of_mem h
    have := acL_row h1
    omega))
  have Hn := hid hn
  have Hr := hid hr
  have G := hid g
  obtain ⟨s, hs⟩ : ∃ s : Int, (N : Int) = s := ⟨_, rfl⟩
  have HS := hid hs
  have hd : decide (12 < s) = false := decide_eq_false (by omega)
  rw [hs]
  obtain ⟨PP, hPP⟩ : ∃ PP, (acL es N n).length = PP := ⟨_, rfl⟩
  rw [hPP] at HSum ⊢
  have HPP := hid hPP
  clear hn hr g h12 hs h18 hPP
  go_enter Try.func14, Try.ntmps14
  go_wp2_with fail
  refine (iIsGraph_any _ _ _ _ es _ (by omega) Hn.out ((show SeesE w (some ⟨b, off, none⟩) es from .inr ⟨b, off, rfl, Hr.out⟩).on (on_alloc _ _))).mono ?_
  rw [decide_eq_true (by rw [← HS.out]; exact G.out)]
  rintro e' w2 ⟨rfl, hb2⟩
  have HX := hid ((Box.new w s (some ⟨b, off, none⟩) n c 28).on hb2)
  have HB := hid (bfrom (w := w) (on_alloc _ _) hb2)
  have HBx := hid ((hb2.block w.heap.size (by simp)).trans (heap_alloc_new w (.cells #[.int .i64 s, .slice (some ⟨b, off, none⟩) n c] 28)))
  have hx := HX.out.1
  have hy := HX.out.2
  have hl := HX.out.lt
  clear hb2
  have HS0 := hid (show StX w N b off n c (w.heap.size + 1) es 0 none 0 [] w2 from ⟨⟨rfl, .inl ⟨rfl, rfl⟩⟩, rfl, AcAt.nil _ _, by rw [HS.out]; exact HBx.out, HB.out⟩)
  go_wp2_with fail
  clear hx hy hl HX HB HBx
  go_loopw [4, 16] (fun u i wr => ∃ (k P cap : Nat) (q : Option Addr) (ps : List AcP), k ≤ n ∧ Hid (ps.length = P ∧ P ≤ 104603532030) ∧ u = .slice q P cap ∧ i = .int .i64 k ∧ Hid (StX w N b off n c (w.heap.size + 1) es k q cap ps wr)) (fun _ i _ => n - (intOf i).toNat)
  case atStart => exact ⟨0, 0, 0, none, [], Nat.zero_le _, hid ⟨rfl, by omega⟩, rfl, rfl, HS0⟩
  case round =>
    clear HS0
    obtain ⟨k, P, cap, q, ps, hk, hP, rfl, rfl, hS⟩ := hrel
    have HPs := hid hP.out
    obtain ⟨wo, rfl⟩ : ∃ wo : World, wo = wr := ⟨_, rfl⟩
    by_cases hlt : k < n
    · have hlt' : (k : Int) < (n : Int) := by omega
      have hke : k < es.length := by rw [Hn.out]; exact hlt
      have hok := G.out.1.2 k hke
      have hrd := Hr.out.on hS.out.bw k hke
      have hc1 := hrd.1
      have hc2 := hrd.2
      obtain ⟨X, hX1⟩ : ∃ X, eA es k = X := ⟨_, rfl⟩
      obtain ⟨Y, hY1⟩ : ∃ Y, eB es k = Y := ⟨_, rfl⟩
      rw [hX1] at hc1
      rw [hY1] at hc2
      have HXY := hid (And.intro hX1 hY1)
      have HYr := hid (show 0 ≤ Y ∧ Y < (N : Int) by rw [← hY1]; exact ⟨hok.2.2.1, hok.2.2.2.1⟩)
      have hbz := World.block_lt_of_cell? wo _ hc1
      dsimp only at hbz
      have hxb := (cell_of_row wo w.heap.size 0 _ _ _ hS.out.bx).trans (rfl : _ = some (Value.int .i64 (N : Int)))
      rw [HS.out] at hxb
      have hyb := (cell_of_row wo w.heap.size 1 _ _ _ hS.out.bx).trans (rfl : _ = some (Value.slice (some ⟨b, off, none⟩) n c))
      have hzb := (Array.getElem?_eq_some_iff.1 hS.out.bx).1
      have hwz : w.heap.size + 1 ≤ wo.heap.size := hzb
      clear hX1 hY1 hrd hok
      go_wp2_with fail
      obtain ⟨w4, hw4⟩ : ∃ w4, w4 = (wo.alloc (.cells #[.int .i64 X, .int .i64 Y] 57)).alloc (.cells #[.int .i64 k] 2) := ⟨_, rfl⟩
      have HB4 := hid (show Below wo.heap.size wo w4 by rw [hw4]; exact bfrom (on_alloc _ _) (on_alloc _ _))
      have HZ4 := hid (show w4.heap.size = wo.heap.size + 2 by rw [hw4]; simp)
      have HO4 := hid (show OwnI w4 (wo.heap.size + 1) 1 [(k : Int)] by
        rw [hw4]
        exact ⟨#[.int .i64 k], (by
          have h := heap_alloc_new (wo.alloc (.cells #[.int .i64 X, .int .i64 Y] 57)) (.cells #[.int .i64 k] 2)
          rwa [World.size_alloc] at h), rfl, Nat.le_refl _, by unfold maxLen; omega, fun i hi => by
            obtain rfl : i = 0 := by simp at hi; omega
            rfl⟩)
      rw [← hw4]
      clear hw4
      have h := iAc_any N b off n c k (b + 1) es G.out Hn.out hlt (by omega) N [(k : Int)] Y [] #[.bool false, .bool false, .bool false, .bool false, .bool false, .bool false, .bool false, .bool false, .bool false, .bool false, .bool false, .bool false, .bool false, .bool false, .bool false, .bool false, .bool false, .bool false, .bool false, .bool false] (wo.heap.size + 1) 1 w4 ⟨(Hr.out.on hS.out.bw).on HB4.out, HO4.out, by omega, rfl, by simp, rfl, HYr.out, by simp, fun x hx => by simp at hx, rfl, fls_atV⟩
      rw [HS.out, show ([(k : Int)]).length = 1 from rfl] at h
      refine h.mono ?_
      clear h
      rintro e' w9 ⟨q6, c6, ps6, rfl, hrow6, hmap6, hat6, hg9, ho9⟩
      obtain ⟨FF, hFF⟩ : ∃ FF, acF es k N [(k : Int)] Y [] = FF := ⟨_, rfl⟩
      rw [hFF] at hmap6
      have HSc := hid (show acL es N (k + 1) = acL es N k ++ FF by rw [acL_succ, HXY.out.2, hFF])
      have hP6 : P + ps6.length ≤ 104603532030 := by
        have h3 := acL_fewS (k := k + 1) G.out (by rw [Hn.out]; omega)
        have h4 := congrArg List.length hmap6
        have h5 := congrArg List.length hS.out.con
        rw [List.length_map] at h4 h5
        rw [HPs.out.1] at h5
        rw [HSc.out, List.length_append] at h3
        omega
      have HP6 := hid hP6
      have HB9 := hid (show Below wo.heap.size wo w9 from HB4.out.grown hg9 HB4.out.size (fun j hj => by have := Option.some.inj hj; omega))
      have HS9 := hid (hS.out.on HB9.out)
      have hrow9 := HS9.out.row
      rw [HPs.out.1] at hrow9
      have HR9 := hid hrow9
      have HR6 := hid hrow6
      have HMp := hid hmap6
      have HA6 := hid hat6
      have hs9 := HB9.out.size
      have hz4 := HB4.out.size
      have HKl := hid hlt
      clear hrow6 hmap6 hat6 hg9 ho9 hrow9 hFF hxb hyb hzb hc1 hc2 hbz hke hlt
      go_wp2_with (at_builtin; refine wpList_append_many rfl (.tmp 21) (.tmp 28) rfl rfl HR9.out rfl HR6.out (by omega) (by omega) (by omega) ?_; intro q9 c9 w10 hrow10 hg10; have HS10 := hid (stX_yes hS.out HPs.out.1 HMp.out HSc.out HB9.out HA6.out hz4 hg10 hrow10 (by omega) hwz); clear hrow10 hg10)
      have HPn := hid (show (ps ++ ps6).length = P + ps6.length by rw [List.length_append, HPs.out.1])
      clear hP6
      go_roundw
      case rel => exact ⟨k + 1, P + ps6.length, c9, q9, ps ++ ps6, by have := HKl.out; omega, hid ⟨HPn.out, HP6.out⟩, rfl, by go_num, HS10⟩
      case measure => have := HKl.out; simp [intOf]; omega
    · obtain rfl : k = n := by omega
      have HSe := hid hS.out
      obtain rfl : P = PP := by rw [← HPP.out, ← HSe.out.con, List.length_map, HPs.out.1]
      have hPb : P ≤ 1048576 := by have := HSum.out.2; omega
      have HRe := hid (show wo.ownsRow (w.heap.size + 1) 41 1 (.slice q P cap) P (ps.map acV) by have h := HSe.out.row; rwa [HPs.out.1] at h)
      have HLn := hid (fun (p : AcP) (hp : p ∈ ps) => HRow.out p ps HSe.out.con hp)
      clear hS hP
      by_cases hP0 : P = 0
      · subst hP0
        have HCall := hid (fun (W : World) => AnyF.slices_SortFunc_none (P := Try.prog) (ρ := Try.sortL_ren) { Try.sortL with } q cap (.func (.func 47) #[] #[]) W)
        go_wp2_with fail
        refine (show Calls Try.prog 46 _ _ _ from HCall.out _).mono ?_
        rintro e' w3 ⟨rfl, rfl⟩
        go_wp2
        go_ret2
        refine ⟨q, cap, rfl, ⟨?_, .inl rfl⟩, HSe.out.bw⟩
        unfold srtR
        rw [List.length_mergeSort, HPP.out]
      · obtain ⟨gq, rfl, _, _, _⟩ := row_cellA HRe.out (by omega)
        go_wp2_with fail
        refine (iSortJ_any (w.heap.size + 1) (w.heap.size + 1) gq cap P ps wo HPs.out.1 (by omega) hPb (by rw [HSe.out.con]; exact acL_nodup _ _ _) HRe.out HSe.out.rows HLn.out).mono ?_
        rintro e' w3 ⟨rfl, qs, hql, hqm, hqr, hqa, hgr⟩
        have HB3 := hid (show Below w.heap.size w w3 from HSe.out.bw.grown hgr HSe.out.bw.size (fun j hj => by have h := (HRe.out.lt j hj).1; omega))
        have HF3 := hid (show FreshP w.heap.size w3 (some ⟨gq, 0, none⟩) P (srtR (acL es N k)) by
          rw [← HSe.out.con, ← hqm]
          exact freshP_ac hql (rowA_less hqr (by omega)) (hqa.less (by omega)))
        clear hql hqm hqr hqa hgr
        go_wp2
        go_ret2
        exact ⟨_, cap, rfl, HF3.out, HB3.out⟩

theorem sAllCycles_any (s : Int) (p : Option Addr) (n c : Nat) (es : List (Int × Int)) (w : World) (hm : n ≤ 1048576) (hn : es.length = n) (hr : SeesE w p es) :
    Calls Try.prog 13 #[.agg #[.int .i64 s, .slice p n c]] w fun e' w' => ∃ q cap, e' = .returned (.tuple #[.slice q (fAllCycles s es).1.length cap, .int .i64 (fAllCycles s es).2]) ∧ SeesL w' q (fAllCycles s es).1 ∧ Below w.heap.size w w' := by
  unfold fAllCycles
  by_cases g : IsG s es
  · rw [if_pos g]
    by_cases h : s ≤ 12
    · rw [if_pos h]
      obtain ⟨b, off, rfl, rd⟩ := isG_sees g hr
      obtain ⟨N, rfl⟩ : ∃ N : Nat, s = N := ⟨_, (Int.toNat_of_nonneg (by have := g.1.1.1; omega)).symm⟩
      rw [Int.toNat_natCast, hn]
      dsimp only
      rw [show (srtR (acL es N n)).length = (acL es N n).length from List.length_mergeSort _]
      exact sAc_yes N b off n c es w hn rd g (by omega)
    · rw [if_neg h]
      exact (sAc_big s p n c es w hm hn hr g h).mono fun e w' ⟨he, hb⟩ => ⟨none, 0, he, .inl rfl, hb⟩
  · rw [if_neg g]
    exact (sAc_no s p n c es w hm hn hr g).mono fun e w' ⟨he, hb⟩ => ⟨none, 0, he, .inl rfl, hb⟩

theorem iAllCycles_any (s : Int) (p : Option Addr) (n c : Nat) (es : List (Int × Int)) (w : World) (hm : n ≤ 1048576) (hn : es.length = n) (hr : SeesE w p es) :
    Calls Try.prog 14 #[.agg #[.int .i64 s, .slice p n c]] w fun e' w' => ∃ q cap, e' = .returned (.tuple #[.slice q (fAllCycles s es).1.length cap, .int .i64 (fAllCycles s es).2]) ∧ FreshP w.heap.size w' q (fAllCycles s es).1.length (fAllCycles s es).1 ∧ Below w.heap.size w w' := by
  unfold fAllCycles
  by_cases g : IsG s es
  · rw [if_pos g]
    by_cases h : s ≤ 12
    · rw [if_pos h]
      obtain ⟨b, off, rfl, rd⟩ := isG_sees g hr
      obtain ⟨N, rfl⟩ : ∃ N : Nat, s = N := ⟨_, (Int.toNat_of_nonneg (by have := g.1.1.1; omega)).symm⟩
      rw [Int.toNat_natCast, hn]
      dsimp only
      rw [show (srtR (acL es N n)).length = (acL es N n).length from List.length_mergeSort _]
      exact iAc_yes N b off n c es w hn rd g (by omega)
    · rw [if_neg h]
      exact (iAc_big s p n c es w hm hn hr g h).mono fun e w' ⟨he, hb⟩ => ⟨none, 0, he, ⟨rfl, .inl rfl⟩, hb⟩
  · rw [if_neg g]
    exact (iAc_no s p n c es w hm hn hr g).mono fun e w' ⟨he, hb⟩ => ⟨none, 0, he, ⟨rfl, .inl rfl⟩, hb⟩

end Go.Proofs.Ytfdlhdgmbjdhbaa
