/- The laws' copy of a list of lists. -/
import Derived.Test.YtfdlhdgmbjdhbaaOpen
import Derived.Test.YtfdlhdgmbjdhbaaLists

/- A list of lists among the arguments, read. -/
namespace Go.Proofs.Ytfdlhdgmbjdhbaa
open Go.ChangeShapes Go.WideShapes Go.ChangeAt Go.RowKit

theorem cells_row : Try.prog.cellsOf 41 = 1 := by kernel_rfl

section
variable {H : Type} {enc : TypeId × Value → H} {w : World} {base : Nat} {spare : Nat → Bool} {held : Bool}

set_option maxRecDepth 100000 in
theorem open_row {fuel : Nat} {v : Value} {x : DataW H × List MemPlace} (h : DataW.trod enc Try.prog w base spare held fuel 41 [v] = some x) :
    ∃ q n c xs, v = .slice q n c ∧ xs.length = n ∧ n ≤ 9223372036854775807 ∧ SeesI w q xs := by
  rcases Go.ChangeShapes.open_ints Try.underlying41 Try.underlying2 cells_int h with ⟨hcs, _⟩ | ⟨a, len, cap, zs, hcs, _, hl, hm, hz, _, hcell, _⟩
  · simp at hcs
    exact ⟨none, 0, 0, [], hcs, rfl, by omega, .inl rfl⟩
  · simp at hcs
    have hzl : len ≤ zs.length := by rw [hz]; split <;> omega
    refine ⟨some a, len, cap, zs.take len, hcs, by rw [List.length_take]; omega, by unfold maxLen at hm; omega, ?_⟩
    rcases Nat.eq_zero_or_pos len with h0 | h0
    · subst h0
      exact .inl rfl
    · obtain ⟨bb, off, spot⟩ := a
      have hspot : spot = none := by simpa [Addr.add] using World.cell?_spot (hcell 0 (by omega))
      subst hspot
      refine .inr ⟨bb, off, rfl, fun i hi => ?_⟩
      rw [List.length_take] at hi
      have h1 := hcell i (by omega)
      rw [Go.WideShapes.add_plain] at h1
      rw [h1, eI]
      congr 2
      rw [List.getD_eq_getElem?_getD, List.getD_eq_getElem?_getD, List.getElem?_take, if_pos (by omega)]

set_option maxRecDepth 100000 in
/-- A list of lists, read: nil, empty or not. -/
theorem open_rows {fuel : Nat} {v : Value} {x : DataW H × List MemPlace} (h : DataW.trod enc Try.prog w base spare held fuel 35 [v] = some x) :
    ∃ p n c Ls, v = .slice p n c ∧ Ls.length = n ∧ n ≤ 9223372036854775807 ∧ (∀ i, i < n → (lI Ls i).length ≤ 9223372036854775807) ∧ SeesL w p Ls := by
  rcases Deep.open_slice Try.underlying35 h with ⟨hcs, _⟩ | ⟨a, len, cap, m, k, D, Pl, hcs, _, hl, hm, hmm, _, hi⟩
  · simp at hcs
    exact ⟨none, 0, 0, [], hcs, rfl, by omega, fun i hi => absurd hi (by omega), .inl rfl⟩
  · simp at hcs
    have hlm : len ≤ m := by rw [hmm]; split <;> omega
    have key : ∀ i, i < len → ∃ xs : List Int, xs.length ≤ 9223372036854775807 ∧ ∃ q c, w.cell? (a.add i) = some (.slice q xs.length c) ∧ SeesI w q xs := fun i hil => by
      obtain ⟨cs', hc, ht⟩ := hi i (by omega)
      rw [cells_row] at hc
      obtain ⟨_, hlen, hat⟩ := World.cells?_some hc
      match cs', hlen with
      | [u], _ =>
        obtain ⟨q, n, c, xs, rfl, h1, h2, h3⟩ := open_row ht
        have h0 := hat 0 (by omega)
        subst h1
        exact ⟨xs, h2, q, c, by simpa [Addr.add] using h0, h3⟩
    have hpick : ∃ Ls : List (List Int), Ls.length = len ∧ ∀ i (h : i < Ls.length), Ls[i].length ≤ 9223372036854775807 ∧ ∃ q c, w.cell? (a.add i) = some (.slice q Ls[i].length c) ∧ SeesI w q Ls[i] := by
      refine ⟨(List.range len).pmap (fun i hi => Classical.choose (key i hi)) (fun i hi => by simpa using hi), by simp, fun i h => ?_⟩
      simp only [List.getElem_pmap, List.getElem_range]
      exact Classical.choose_spec (key i (by simpa using h))
    obtain ⟨Ls, hLs, hcell⟩ := hpick
    have hat : ∀ i (h : i < Ls.length), lI Ls i = Ls[i] := fun i h => by unfold lI; rw [List.getD_eq_getElem?_getD, List.getElem?_eq_getElem h]; rfl
    refine ⟨some a, len, cap, Ls, hcs, hLs, by unfold maxLen at hm; omega, fun i hi => by rw [hat i (by omega)]; exact (hcell i (by omega)).1, ?_⟩
    rcases Ls with _ | ⟨e, Ls⟩
    · exact .inl rfl
    · obtain ⟨b, off, spot⟩ := a
      obtain ⟨_, q0, c0, h00, _⟩ := hcell 0 (by simp)
      have hspot : spot = none := by simpa [Addr.add] using World.cell?_spot h00
      subst hspot
      refine .inr ⟨b, off, rfl, fun i hi => ?_⟩
      obtain ⟨_, q, c, h0, h1⟩ := hcell i hi
      rw [Go.WideShapes.add_plain] at h0
      rw [hat i hi]
      exact ⟨q, c, h0, h1⟩

set_option maxRecDepth 100000 in
theorem open_lists {r : Reach} {b0 : Nat} {v : Value} {d : DataW H} {p : List MemPlace} (hv : Value.okWide Try.prog w r b0 35 v) (h : DataW.Trod enc Try.prog w base spare held 35 v d p) :
    ∃ q n c Ls, v = .slice q n c ∧ Ls.length = n ∧ n ≤ 9223372036854775807 ∧ (∀ i, i < n → (lI Ls i).length ≤ 9223372036854775807) ∧ SeesL w q Ls := by
  obtain ⟨f, hf⟩ := h
  obtain ⟨b, m, e, hb⟩ := okWide_slice Try.underlying35 hv
  subst hb
  have hc : (Value.slice b m e).cells.toList = [Value.slice b m e] := by simp [Value.cells]
  exact open_rows (by rw [← hc]; exact hf)
end

end Go.Proofs.Ytfdlhdgmbjdhbaa

namespace Go.Proofs.Ytfdlhdgmbjdhbaa
open Go.RowKit

theorem infoSlT : (Try.prog.info? 41).map (fun i => (i.zero, i.size, i.bytes)) = some (some (.slice none 0 0), 1, 24) := by kernel_rfl
/-- The first j rows are copied. -/
def CopT (g n j : Nat) (Ls : List (List Int)) (W : World) : Prop := ∃ cur, W.heap[g]? = some (.cells cur 41 (0, 0)) ∧ cur.size = n ∧ ∀ i, i < j → ∃ g' c, cur[i]? = some (.slice (some ⟨g', 0, none⟩) (lI Ls i).length c) ∧ g < g' ∧ OwnI W g' c (lI Ls i)
theorem CopT.on {g n j : Nat} {Ls : List (List Int)} {W W' : World} (h : CopT g n j Ls W) (hb : Below W.heap.size W W') : CopT g n j Ls W' := by
  obtain ⟨cur, h1, h2, h3⟩ := h
  refine ⟨cur, (hb.block g (Array.getElem?_eq_some_iff.1 h1).1).trans h1, h2, fun i hi => ?_⟩
  obtain ⟨g', c, e1, e2, e3⟩ := h3 i hi
  exact ⟨g', c, e1, e2, e3.on hb⟩
theorem CopT.put {g n j g' : Nat} {Ls : List (List Int)} {W : World} (h : CopT g n j Ls W) (hj : j < n) (hg : g < g') {c : Nat} (ho : OwnI W g' c (lI Ls j)) : CopT g n (j + 1) Ls (W.setCell ⟨g, j, none⟩ (.slice (some ⟨g', 0, none⟩) (lI Ls j).length c)) := by
  obtain ⟨cur, h1, h2, h3⟩ := h
  refine ⟨_, heap_setCell_same _ _ _ _ _ _ h1, by simp [h2], fun i hi => ?_⟩
  by_cases e : i = j
  · subst e
    exact ⟨g', c, by simp [h2, hj], hg, ho.far (by show g' ≠ g; omega) _⟩
  · obtain ⟨g2, c2, e1, e2, e3⟩ := h3 i (by omega)
    exact ⟨g2, c2, by rw [Array.getElem?_setIfInBounds_ne (by omega)]; exact e1, e2, e3.far (by show g2 ≠ g; omega) _⟩
theorem CopT.sees {g n : Nat} {Ls : List (List Int)} {W : World} (h : CopT g n n Ls W) (hl : Ls.length = n) : SeesL W (some ⟨g, 0, none⟩) Ls := by
  obtain ⟨cur, h1, h2, h3⟩ := h
  refine .inr ⟨g, 0, rfl, fun i hi => ?_⟩
  obtain ⟨g', c, e1, e2, e3⟩ := h3 i (by omega)
  exact ⟨some ⟨g', 0, none⟩, c, by rw [Nat.zero_add, cell_of_row W g _ cur _ _ h1]; exact e1, e3.sees⟩

set_option maxRecDepth 100000 in
set_option maxHeartbeats 4000000 in
theorem toLists_sees (p : Option Addr) (c n : Nat) (Ls : List (List Int)) (w : World) (hn : Ls.length = n) (hlen : n ≤ 1048576) (hrows : ∀ i, i < n → (lI Ls i).length ≤ 1048576) (hr : SeesL w p Ls) :
    Calls Try.prog 20 #[.slice p n c] w fun e w' => ∃ g, e = .returned (.slice (some ⟨g, 0, none⟩) n n) ∧ w.heap.size ≤ g ∧ SeesL w' (some ⟨g, 0, none⟩) Ls ∧ Below w.heap.size w w' := by
  obtain ⟨j0, hj, hy0, hy1, hy2⟩ := info_parts infoSlT
  have Hn := hid hn
  have Hr := hid hr
  have Hrows := hid hrows
  have hmk0 : ∀ w', (Instr.makeSlice 35 (.int .i64 n) (.int .i64 n)).run Try.prog w' = .ok (.slice (some ⟨w'.heap.size, 0, none⟩) n n) (w'.alloc (.cells (madeCells (Value.slice none 0 0).cells (n * 1)) 41)) := fun w' => by
    have h := run_makeSlice (P := Try.prog) w' 35 41 j0 (.slice none 0 0) Try.underlying35 hj hy0 .i64 .i64 n n (by omega) (Int.le_refl _) (by rw [hy1]; omega) (by rw [hy2]; omega) (by omega)
    rw [hy1] at h
    simpa using h
  obtain ⟨ZC, hZC⟩ : ∃ ZC, ZC = madeCells (Value.slice none 0 0).cells (n * 1) := ⟨_, rfl⟩
  have hmk : ∀ w', (Instr.makeSlice 35 (.int .i64 n) (.int .i64 n)).run Try.prog w' = .ok (.slice (some ⟨w'.heap.size, 0, none⟩) n n) (w'.alloc (.cells ZC 41)) := by rw [hZC]; exact hmk0
  have HZC := hid (show ZC.size = n by rw [hZC, size_madeCells, Nat.mul_one])
  clear hn hr hrows hj hmk0 hZC
  go_enter Try.func20, Try.ntmps20
  go_wp2
  obtain ⟨w3, hw3⟩ : ∃ w3, w3 = w.alloc (.cells ZC 41) := ⟨_, rfl⟩
  rw [← hw3]
  have HB3 := hid (show Below w.heap.size w w3 by rw [hw3]; exact on_alloc _ _)
  have HC3 := hid (show CopT w.heap.size n 0 Ls w3 by rw [hw3]; exact ⟨ZC, heap_alloc_new w _, HZC.out, fun i hi => absurd hi (by omega)⟩)
  clear hw3
  go_loopw [4] (fun i wr => ∃ j : Nat, j ≤ n ∧ i = .int .i64 j ∧ Hid (CopT w.heap.size n j Ls wr) ∧ Hid (Below w.heap.size w wr)) (fun i _ => n - (intOf i).toNat)
  case atStart => exact ⟨0, Nat.zero_le _, rfl, HC3, HB3⟩
  case round =>
    obtain ⟨j, hj, rfl, hC, hB⟩ := hrel
    clear HC3 HB3
    have hBs := hB.out.size
    obtain ⟨wi, rfl⟩ : ∃ wi : World, wi = wr := ⟨_, rfl⟩
    by_cases hlt : j < n
    · have hlt' : (j : Int) < (n : Int) := by omega
      obtain ⟨b1, o1, rfl, hrd⟩ : ∃ b1 o1, p = some ⟨b1, o1, none⟩ ∧ ReadsL w b1 o1 Ls := by
        rcases Hr.out with h | h
        · have := Hn.out; rw [h] at this; simp at this; omega
        · exact h
      obtain ⟨q', c', hcell, hsee⟩ := hrd j (by rw [Hn.out]; exact hlt)
      have hb1w := World.block_lt_of_cell? w _ hcell
      dsimp only at hb1w
      have hc1 := (World.cell?_of_block (w := w) (w' := wi) (a := ⟨b1, o1 + j, none⟩) (hB.out.block b1 hb1w)).trans hcell
      have hb1i : b1 < wi.heap.size := by omega
      obtain ⟨l, hl⟩ : ∃ l, (lI Ls j).length = l := ⟨_, rfl⟩
      rw [hl] at hc1
      have HLl := hid hl
      have hl9 : l ≤ 1048576 := by have := Hrows.out j hlt; omega
      have HSee := hid hsee
      clear hrd hcell hsee hl
      go_wp2_with fail
      refine (toInts_sees q' c' l (lI Ls j) _ HLl.out hl9 (HSee.out.on hB.out)).mono ?_
      rintro e' w5 ⟨g5, rfl, hg5, ho5, hb5⟩
      have HC5 := hid (hC.out.on hb5)
      obtain ⟨cur, hcur, hcs, _⟩ := HC5.out
      have hgz : w.heap.size < wi.heap.size := by obtain ⟨_, h, _⟩ := hC.out; exact (Array.getElem?_eq_some_iff.1 h).1
      have hgz5 : w.heap.size < w5.heap.size := by have := hb5.size; omega
      have hcj : w5.cell? ⟨w.heap.size, j, none⟩ = some cur[j] := (cell_of_row w5 _ j cur _ _ hcur).trans (Array.getElem?_eq_getElem (by omega))
      have hfj := frozen_of_row w5 w.heap.size j cur _ hcur
      have HO5 := hid ho5
      have HB5 := hid (bfrom hB.out hb5)
      have HG5 := hid (show w.heap.size < g5 by omega)
      clear ho5 hb5 hcur hc1
      go_wp2
      go_roundw
      case rel => exact ⟨j + 1, by omega, by go_num, hid (by
        have h := HC5.out.put hlt HG5.out (c := l) HO5.out
        rw [HLl.out] at h
        exact h), hid (HB5.out.setCell (p := ⟨w.heap.size, j, none⟩) (Nat.le_refl _) _)⟩
      case measure => simp [intOf]; omega
    · have hjn := hid (show j = n by omega)
      go_wp2
      go_ret
      exact ⟨_, rfl, Nat.le_refl _, by have h := hC.out; rw [hjn.out] at h; exact h.sees Hn.out, hB.out⟩

set_option maxRecDepth 100000 in
set_option maxHeartbeats 2000000 in
theorem szInts_any (p : Option Addr) (c n : Nat) (R : Int) (w : World) (hR0 : 0 ≤ R) (hR : R ≤ 1048576) (hn : n ≤ 9223372036854775807) :
    Calls Try.prog 53 #[.slice p n c, .int .i64 R] w fun e w' => e = .returned (.int .i64 (if (n : Int) ≤ R then R - n else -1)) ∧ w' = w := by
  by_cases h : (n : Int) ≤ R
  · have h2 : ¬ (R - (n : Int) < 0) := by omega
    rw [if_pos h]
    have HH := hid h
    clear h
    go_enter Try.func53, Try.ntmps53
    go_wp2
    go_ret
    exact ⟨rfl, rfl⟩
  · have h2 : R - (n : Int) < 0 := by omega
    rw [if_neg h]
    clear h
    go_enter Try.func53, Try.ntmps53
    go_wp2
    go_ret
    exact ⟨rfl, rfl⟩

set_option maxRecDepth 100000 in
set_option maxHeartbeats 4000000 in
/-- What is left of a room behind a list of lists: something below 0 if they don't fit. -/
theorem szLists_any (p : Option Addr) (c n : Nat) (R : Int) (Ls : List (List Int)) (w : World) (hR0 : 0 ≤ R) (hR : R ≤ 1048576) (hn : n ≤ 9223372036854775807) (hL : Ls.length = n) (hrows : ∀ i, i < n → (lI Ls i).length ≤ 9223372036854775807) (hr : SeesL w p Ls) :
    Calls Try.prog 18 #[.slice p n c, .int .i64 R] w fun e w' => (∃ z, e = .returned (.int .i64 z) ∧ ((0 ≤ z ∧ z = R - n - (sumLL Ls n : Int)) ∨ (z = -1 ∧ R < n + (sumLL Ls n : Int)))) ∧ w' = w := by
  have HL := hid hL
  have Hrows := hid hrows
  have Hr := hid hr
  clear hL hrows hr
  by_cases h : R - (n : Int) < 0
  · have HH := hid (show R < n + (sumLL Ls n : Int) by omega)
    go_enter Try.func18, Try.ntmps18
    go_wp2
    go_ret
    exact ⟨⟨_, rfl, .inr ⟨rfl, HH.out⟩⟩, rfl⟩
  · go_enter Try.func18, Try.ntmps18
    go_wp2
    go_loopw [1, 5] (fun z i wr => ∃ (j : Nat) (Z : Int), j ≤ n ∧ i = .int .i64 j ∧ z = .int .i64 Z ∧ 0 ≤ Z ∧ Z ≤ R ∧ Hid (Z = R - n - (sumLL Ls j : Int)) ∧ wr = w) (fun _ i _ => n - (intOf i).toNat)
    case atStart => exact ⟨0, R - n, Nat.zero_le _, rfl, rfl, by omega, by omega, hid (by simp [sumLL]), rfl⟩
    case round =>
      obtain ⟨j, Z, hj, rfl, rfl, hZ0, hZR, hZ, rfl⟩ := hrel
      by_cases hlt : j < n
      · have hlt' : (j : Int) < (n : Int) := by omega
        obtain ⟨b1, o1, rfl, hrd⟩ : ∃ b1 o1, p = some ⟨b1, o1, none⟩ ∧ ReadsL wr b1 o1 Ls := by
          rcases Hr.out with h | h
          · have := HL.out; rw [h] at this; simp at this; omega
          · exact h
        obtain ⟨q', c', hcell, _⟩ := hrd j (by rw [HL.out]; exact hlt)
        have hb1 := World.block_lt_of_cell? wr _ hcell
        dsimp only at hb1
        have hl9 := Hrows.out j hlt
        have hs1 : sumLL Ls (j + 1) = sumLL Ls j + (lI Ls j).length := rfl
        have hs2 : sumLL Ls (j + 1) ≤ sumLL Ls n := sumLL_mono Ls hlt
        obtain ⟨l, hl⟩ : ∃ l, (lI Ls j).length = l := ⟨_, rfl⟩
        rw [hl] at hcell hl9 hs1
        have HS := hid (And.intro hs1 hs2)
        clear hrd hl hs1 hs2
        by_cases hlz : (l : Int) ≤ Z
        · have hnn : ¬ (Z - (l : Int) < 0) := by omega
          have HLZ := hid hlz
          go_wp2_with fail
          refine (szInts_any q' c' l Z _ hZ0 (by omega) hl9).mono ?_
          rw [if_pos HLZ.out]
          rintro e' w5 ⟨rfl, rfl⟩
          clear hlz
          go_wp2
          go_roundw
          case rel => exact ⟨j + 1, Z - l, by omega, by go_num, rfl, by omega, by omega, hid (by have h1 := HS.out.1; have h2 := hZ.out; omega), trivial⟩
          case measure => simp [intOf]; omega
        · have HLZ := hid hlz
          go_wp2_with fail
          refine (szInts_any q' c' l Z _ hZ0 (by omega) hl9).mono ?_
          rw [if_neg (by have := HLZ.out; omega)]
          rintro e' w5 ⟨rfl, rfl⟩
          have HH := hid (show R < n + (sumLL Ls n : Int) by have h1 := HS.out; have h2 := hZ.out; omega)
          clear hlz
          go_wp2
          go_ret
          exact ⟨⟨_, rfl, .inr ⟨rfl, HH.out⟩⟩, rfl⟩
      · have hjn := hid (show j = n by omega)
        go_wp2
        go_ret
        exact ⟨⟨_, rfl, .inl ⟨hZ0, by rw [← hjn.out]; have := hZ.out; rw [hjn.out] at this ⊢; exact this⟩⟩, rfl⟩

end Go.Proofs.Ytfdlhdgmbjdhbaa
