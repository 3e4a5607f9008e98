/- Squares of marks in the model: l08Rows. -/
import Derived.Test.YtonlpihbpbnnmaaNearS
import Derived.Test.YtonlpihbpbnnmaaMxA
import Derived.Test.YtonlpihbpbnnmaaLists
import Derived.Test.YtonlpihbpbnnmaaOwnMore
import Derived.Deep.AppendLies
import Derived.Deep.DeepMust
import Derived.BigQuiet
namespace Go.Proofs.Ytonlpihbpbnnmaa
open Go.RowKit

def mark (b : Bool) : Int := if b = true then 1 else 0
def bN (bs : List Nat) (i : Nat) : Nat := bs.getD i 0
def rowV (N : Nat) (b : Nat) : Value := .slice (some ⟨b, 0, none⟩) N N
theorem bN_lt {bs : List Nat} {i : Nat} (h : i < bs.length) : bs[i]? = some (bN bs i) := by
  unfold bN
  rw [List.getD_eq_getElem?_getD, List.getElem?_eq_getElem h]
  rfl
/-- Rows of marks, each in a block of its own, from block B on. -/
def RowsB (w : World) (B : Nat) (bs : List Nat) (N : Nat) (S : Nat → Nat → Bool) : Prop :=
  (∀ i, i < bs.length → B ≤ bN bs i ∧ ∃ cur, w.heap[bN bs i]? = some (.cells cur 2 (0, 0)) ∧ cur.size = N ∧ ∀ j, j < N → cur[j]? = some (Value.int .i64 (mark (S i j)))) ∧
    ∀ i j, i < bs.length → j < bs.length → bN bs i = bN bs j → i = j
section
variable {w w' : World} {B N : Nat} {bs : List Nat} {S : Nat → Nat → Bool}
theorem RowsB.keep (h : RowsB w B bs N S) (hk : ∀ i, i < bs.length → w'.heap[bN bs i]? = w.heap[bN bs i]?) : RowsB w' B bs N S :=
  ⟨fun i hi => by
    obtain ⟨h1, cur, hc, r⟩ := h.1 i hi
    exact ⟨h1, cur, (hk i hi).trans hc, r⟩, h.2⟩
theorem RowsB.lt (h : RowsB w B bs N S) {i : Nat} (hi : i < bs.length) : bN bs i < w.heap.size := by
  obtain ⟨_, cur, hc, _⟩ := h.1 i hi
  exact (Array.getElem?_eq_some_iff.1 hc).1
theorem RowsB.on (h : RowsB w B bs N S) (hb : Below w.heap.size w w') : RowsB w' B bs N S := h.keep fun _ hi => hb.block _ (h.lt hi)
theorem RowsB.cell (h : RowsB w B bs N S) {i j : Nat} (hi : i < bs.length) (hj : j < N) : w.cell? ⟨bN bs i, j, none⟩ = some (.int .i64 (mark (S i j))) := by
  obtain ⟨_, cur, hc, _, r⟩ := h.1 i hi
  rw [cell_of_row w _ j cur _ _ hc]
  exact r j hj
theorem RowsB.free (h : RowsB w B bs N S) {i : Nat} (hi : i < bs.length) (j : Nat) : w.frozen? ⟨bN bs i, j, none⟩ = false := by
  obtain ⟨_, cur, hc, _⟩ := h.1 i hi
  exact frozen_of_row w _ j cur _ hc
theorem RowsB.set (h : RowsB w B bs N S) {i j : Nat} (hi : i < bs.length) (hj : j < N) : RowsB (w.setCell ⟨bN bs i, j, none⟩ (.int .i64 1)) B bs N (setM S i j) := by
  refine ⟨fun a ha => ?_, h.2⟩
  obtain ⟨h1, cur, hc, hs, r⟩ := h.1 a ha
  by_cases e : a = i
  · subst e
    refine ⟨h1, _, heap_setCell_same _ _ _ _ _ _ hc, by simpa using hs, fun b hb => ?_⟩
    rw [Array.getElem?_setIfInBounds]
    by_cases e2 : j = b
    · subst e2
      rw [if_pos rfl, if_pos (by omega)]
      rw [show setM S a j a j = true from setM_iff.2 (.inl ⟨rfl, rfl⟩)]
      rfl
    · rw [if_neg e2, r b hb]
      have e3 : setM S a j a b = S a b := by
        rw [Bool.eq_iff_iff, setM_iff]
        constructor
        · rintro (h | h)
          · exact absurd h.2.symm e2
          · exact h
        · exact .inr
      rw [e3]
  · refine ⟨h1, cur, (heap_setCell_other w ⟨bN bs i, j, none⟩ (bN bs a) _ (fun e2 => e (h.2 a i ha hi e2))).trans hc, hs, fun b hb => ?_⟩
    rw [r b hb]
    have e3 : setM S i j a b = S a b := by
      rw [Bool.eq_iff_iff, setM_iff]
      constructor
      · rintro (h | h)
        · exact absurd h.1 e
        · exact h
      · exact .inr
    rw [e3]
/-- One row more, of zeros. -/
theorem RowsB.push (h : RowsB w B bs N noM) {ZC : Array Value} (hZ : ZC = madeCells (Value.int .i64 0).cells (N * 1)) (hB : B ≤ w.heap.size) : RowsB (w.alloc (.cells ZC 2)) B (bs ++ [w.heap.size]) N noM := by
  have hl : (bs ++ [w.heap.size]).length = bs.length + 1 := by simp
  have hold : ∀ i, i < bs.length → bN (bs ++ [w.heap.size]) i = bN bs i := fun i hi => by
    unfold bN
    rw [List.getD_eq_getElem?_getD, List.getD_eq_getElem?_getD, List.getElem?_append_left hi]
  have hnew : bN (bs ++ [w.heap.size]) bs.length = w.heap.size := by
    unfold bN
    rw [List.getD_eq_getElem?_getD, List.getElem?_append_right (Nat.le_refl _)]
    simp
  refine ⟨fun i hi => ?_, fun i j hi hj e => ?_⟩
  · rcases Nat.lt_or_ge i bs.length with h1 | h1
    · rw [hold i h1]
      obtain ⟨h2, cur, hc, r⟩ := h.1 i h1
      exact ⟨h2, cur, (Below.heap_alloc w _ _ (h.lt h1)).trans hc, r⟩
    · have e : i = bs.length := by omega
      rw [e, hnew]
      refine ⟨hB, ZC, heap_alloc_new w _, by rw [hZ, size_madeCells, Nat.mul_one], fun j hj => ?_⟩
      rw [hZ]
      show _ = some (Value.int .i64 0)
      simp [madeCells, hj, Value.cells, Nat.mod_one]
  · rcases Nat.lt_or_ge i bs.length with h1 | h1
    · rcases Nat.lt_or_ge j bs.length with h2 | h2
      · rw [hold i h1, hold j h2] at e
        exact h.2 i j h1 h2 e
      · have e2 : j = bs.length := by omega
        rw [hold i h1, e2, hnew] at e
        have := h.lt h1
        omega
    · rcases Nat.lt_or_ge j bs.length with h2 | h2
      · have e2 : i = bs.length := by omega
        rw [hold j h2, e2, hnew] at e
        have := h.lt h2
        omega
      · omega
theorem RowsB.nil (w : World) (B N : Nat) (S : Nat → Nat → Bool) : RowsB w B [] N S := ⟨fun _ hi => absurd hi (by simp), fun _ _ hi => absurd hi (by simp)⟩
end

/-- The list of the rows. -/
def OutB (w : World) (g : Nat) (bs : List Nat) (N : Nat) : Prop := ∃ cur, w.heap[g]? = some (.cells cur 34 (0, 0)) ∧ bs.length ≤ cur.size ∧ ∀ i, i < bs.length → cur[i]? = some (rowV N (bN bs i))
section
variable {w w' : World} {g B N : Nat} {bs : List Nat} {S : Nat → Nat → Bool}
theorem OutB.keep (h : OutB w g bs N) (hk : w'.heap[g]? = w.heap[g]?) : OutB w' g bs N := by
  obtain ⟨cur, hc, r⟩ := h
  exact ⟨cur, hk.trans hc, r⟩
theorem OutB.lt (h : OutB w g bs N) : g < w.heap.size := by
  obtain ⟨cur, hc, r⟩ := h
  exact (Array.getElem?_eq_some_iff.1 hc).1
theorem OutB.on (h : OutB w g bs N) (hb : Below w.heap.size w w') : OutB w' g bs N := h.keep (hb.block g h.lt)
theorem OutB.cell (h : OutB w g bs N) {i : Nat} (hi : i < bs.length) : w.cell? ⟨g, i, none⟩ = some (.slice (some ⟨bN bs i, 0, none⟩) N N) := by
  obtain ⟨cur, hc, _, r⟩ := h
  rw [cell_of_row w g i cur _ _ hc]
  exact r i hi
theorem OutB.ne (h : OutB w g bs N) (hr : RowsB w B bs N S) {i : Nat} (hi : i < bs.length) : g ≠ bN bs i := fun e => by
  obtain ⟨cur, hc, _⟩ := h
  obtain ⟨_, cur2, hc2, _⟩ := hr.1 i hi
  rw [e, hc2] at hc
  injection hc with hc
  injection hc with _ h2
  exact absurd h2 (by decide)
end

/-- What the list of the rows grows leaves them alone. -/
theorem RowsB.grown {w w' : World} {B N base n : Nat} {bs : List Nat} {S : Nat → Nat → Bool} {v : Value} {xs : List Value} (h : RowsB w B bs N S) (hrow : w.ownsRow base 34 1 v n xs) (hg : w.grownBy w' v.ownBlock) : RowsB w' B bs N S := by
  refine h.keep fun i hi => hg.block _ (h.lt hi) fun e => ?_
  obtain ⟨_, cur2, hc2, _⟩ := h.1 i hi
  rcases hrow.2 with ⟨rfl, _⟩ | ⟨g, cap, cur, rfl, _, hc, _⟩
  · cases e
  · have e2 : bN bs i = g := Option.some.inj e
    rw [e2, hc] at hc2
    injection hc2 with hc2
    injection hc2 with _ h2
    exact absurd h2 (by decide)
theorem OutB.of_row {w : World} {base N k cap : Nat} {bs : List Nat} {q : Option Addr} (h : w.ownsRow base 34 1 (.slice q k cap) k (bs.map (rowV N))) (hl : bs.length = k) (hk : 0 < k) : ∃ g, q = some ⟨g, 0, none⟩ ∧ base ≤ g ∧ OutB w g bs N := by
  rcases h.2 with ⟨_, h0⟩ | ⟨g, cap', cur, hv, hb, hg, hn, hm, hs, ht⟩
  · omega
  · injection hv with e1 e2 e3
    refine ⟨g, e1, hb, cur, hg, by omega, fun i hi => ?_⟩
    have h1 : (cur.toList.take (k * 1))[i]? = cur.toList[i]? := by rw [List.getElem?_take, if_pos (by omega)]
    rw [ht, List.getElem?_map, bN_lt hi] at h1
    rw [← Array.getElem?_toList, ← h1]
    rfl

theorem OutB.drewN {w : World} {g N : Nat} {bs : List Nat} (h : OutB w g bs N) (n : Nat) : OutB (w.drewN n) g bs N := h.keep rfl
theorem bfrom' {B : Nat} {w W w2 : World} (h : Below B w W) (hb : Below W.heap.size W w2) (hB : B ≤ w.heap.size := by exact Nat.le_refl _) : Below B w w2 := h.trans (hb.mono (Nat.le_trans hB h.size))
theorem new_after {W : World} {o : Obj} (a : Nat) (h : a = W.heap.size) : (W.alloc o).heap[a]? = some o := by subst h; exact heap_alloc_new W o
theorem RowsB.less {w : World} {B B' N : Nat} {bs : List Nat} {S : Nat → Nat → Bool} (h : RowsB w B bs N S) (hB : B' ≤ B) : RowsB w B' bs N S := ⟨fun i hi => by
  obtain ⟨h1, h2⟩ := h.1 i hi
  exact ⟨Nat.le_trans hB h1, h2⟩, h.2⟩
theorem Box.on' {w w' : World} {M B n c : Nat} {s : Int} {p : Option Addr} (h : Box w B s p n c) (hb : Below M w w') (hl : B < M := by assumption) : Box w' B s p n c := ⟨(hb.cell (p := ⟨B, 0, none⟩) hl).trans h.1, (hb.cell (p := ⟨B, 1, none⟩) hl).trans h.2⟩

theorem RowsB.drewS {w : World} {B N : Nat} {bs : List Nat} {S : Nat → Nat → Bool} (h : RowsB w B bs N S) (n : Nat) : RowsB (w.drewN n) B bs N S := h.keep fun _ _ => rfl

theorem infoSlM : (Try.prog.info? 34).map (fun i => (i.zero, i.size, i.bytes)) = some (some (.slice none 0 0), 1, 24) := by kernel_rfl

/-- What l08Rows leaves. -/
def MxPost (B N : Nat) (S : Nat → Nat → Bool) (w : World) (e : Ending) (w' : World) : Prop :=
  ∃ g cap bs, e = .returned (.slice (some ⟨g, 0, none⟩) N cap) ∧ bs.length = N ∧ OutB w' g bs N ∧ RowsB w' B bs N S ∧ Below B w w'

set_option maxRecDepth 100000 in
set_option maxHeartbeats 16000000 in
theorem sRowsF_any (s : Nat) (b off m c : Nat) (es : List (Int × Int)) (w : World) (hn : es.length = m) (hr : ReadsE w b off es) (g : IsG s es) :
    Calls Try.prog 67 #[.agg #[.int .i64 s, .slice (some ⟨b, off, none⟩) m c], .bool false] w (MxPost w.heap.size m (outS es 0 false m) w) := by
  have hm30 : m ≤ 30 := by have := isG_len g; omega
  have h1m : 1 ≤ m := by have := g.1.1.2.2.2; have := g.1.1.1; omega
  have Hn := hid hn
  have Hr := hid hr
  obtain ⟨j0, hj, hy0, hy1, hy2⟩ := info_parts infoInt
  obtain ⟨s0, hs, hs0, hs1, hs2⟩ := info_parts infoSlM
  obtain ⟨ZC, hZC⟩ : ∃ ZC, ZC = madeCells (Value.int .i64 0).cells (m * 1) := ⟨_, rfl⟩
  have hmk : ∀ w', (Instr.makeSlice 34 (.int .i64 m) (.int .i64 m)).run Try.prog w' = .ok (.slice (some ⟨w'.heap.size, 0, none⟩) m m) (w'.alloc (.cells ZC 2)) := fun w' => by
    have h := run_makeSlice (P := Try.prog) w' 34 2 j0 (.int .i64 0) Try.underlying34 hj hy0 .i64 .i64 m m (by omega) (Int.le_refl _) (by rw [hy1]; omega) (by rw [hy2]; omega) (by omega)
    rw [hy1] at h
    rw [hZC]
    simpa using h
  have HZC := hid hZC
  have Hs := hid hs
  have HX0 := hid (Box.new w s (some ⟨b, off, none⟩) m c 30)
  have HB0 := hid (on_alloc w (.cells #[.int .i64 s, .slice (some ⟨b, off, none⟩) m c] 30))
  have hb0 := HX0.out.1
  have hb1 := HX0.out.2
  clear hn hr g hj hs hZC
  go_enter Try.func67, Try.ntmps67
  go_wp2
  go_quiet (fail)
  obtain ⟨w1, hw1⟩ : ∃ w1, w1 = (w.alloc (.cells #[.int .i64 s, .slice (some ⟨b, off, none⟩) m c] 30)).drewN nq := ⟨_, rfl⟩
  have HB1 := hid (show Below w.heap.size w w1 by rw [hw1]; exact bdn.2 HB0.out)
  have HX1 := hid (show Box w1 w.heap.size s (some ⟨b, off, none⟩) m c by rw [hw1]; exact HX0.out)
  have HS1 := hid (show w1.heap.size = w.heap.size + 1 by rw [hw1]; simp)
  rw [← hw1]
  clear hw1 HX0 HB0 hb0 hb1
  go_wp2
  have HO1 := hid (show (w1.alloc (.cells #[] 34)).ownsRow w1.heap.size 34 1 (.slice (some ⟨w1.heap.size, 0, none⟩) 0 0) 0 (([] : List Nat).map (rowV m)) from World.ownsRow_made (base := w1.heap.size) (e := 34) (size := 1) w1 #[] 0 (Nat.le_refl _) (Nat.zero_le _) rfl)
  have HBA := hid (on_alloc w1 (.cells #[] 34))
  go_loopw [7, 8] (fun u i wr => ∃ (k cap : Nat) (q : Option Addr) (bs : List Nat), k ≤ m ∧ u = .slice q k cap ∧ i = .int .i64 k ∧ Hid (wr.ownsRow w1.heap.size 34 1 (.slice q k cap) k (bs.map (rowV m))) ∧ Hid (bs.length = k ∧ RowsB wr w1.heap.size bs m noM) ∧ Hid (Below w1.heap.size w1 wr)) (fun _ i _ => m - (intOf i).toNat)
  case atStart => exact ⟨0, 0, _, [], Nat.zero_le _, rfl, rfl, HO1, hid ⟨rfl, RowsB.nil _ _ _ _⟩, HBA⟩
  case round =>
    obtain ⟨k, cap, q, bs, hk, rfl, rfl, hOw, hRo, hB⟩ := hrel
    clear HO1 HBA
    obtain ⟨wi, rfl⟩ : ∃ wi : World, wi = wr := ⟨_, rfl⟩
    by_cases hlt : k < m
    · have hlt' : (k : Int) < (m : Int) := by omega
      have HP := hid (RowsB.push (N := m) hRo.out.2 HZC.out hB.out.size)
      have HOa := hid (show (wi.alloc (.cells ZC 2)).ownsRow w1.heap.size 34 1 (.slice q k cap) k (bs.map (rowV m)) from World.ownsRow.alloc hOw.out _)
      have HBi := hid (bfrom hB.out (on_alloc wi (.cells ZC 2)))
      have hwi : w1.heap.size ≤ wi.heap.size := hB.out.size
      go_wp2_with (at_builtin; go_must (refine wpList_append_lies _ rfl (.tmp 32) (.tmp 37) 49 rfl w1.heap.size 34 s0 (.slice none 0 0) 1 24 Try.underlying49 Hs.out hs0 hs1 hs2 rfl (by decide) (.slice q k cap) k (bs.map (rowV m)) rfl (HOa.out.alloc _) ⟨wi.heap.size + 1, 0, none⟩ 1 1 [.slice (some ⟨wi.heap.size, 0, none⟩) m m] rfl rfl (World.news_of_block (cs := #[.slice (some ⟨wi.heap.size, 0, none⟩) m m]) (t := 34) (fr := (0, 0)) (new_after _ (by simp))) (by simp [Value.oneCell']) (by decide) (by unfold maxLen; omega) (by omega) (by simp; omega) (wi.heap.size + 1 + 1) (by simp) ?_); intro g8 cap8 w8 hown8 hgrow8 hlie8 hg8; have Hown8 := hid hown8; have Hgrow8 := hid hgrow8; clear hown8 hgrow8 hlie8)
      have HRow := hid (HOa.out.lt)
      go_roundw
      case rel =>
        refine ⟨k + 1, cap8, some ⟨g8, 0, none⟩, bs ++ [wi.heap.size], by omega, rfl, by go_num, hid ?_, hid ⟨by rw [List.length_append, hRo.out.1]; rfl, ?_⟩, hid ?_⟩
        · rw [List.map_append]; exact Hown8.out
        · exact (HP.out.on (on_alloc _ _)).grown (HOa.out.alloc _) Hgrow8.out
        · exact (bfrom' HBi.out (on_alloc _ _)).grown Hgrow8.out (by have := HBi.out.size; simp at this ⊢; omega) (fun j' e => (HRow.out j' e).1)
      case measure => simp [intOf]; omega
    · obtain rfl : k = m := by omega
      obtain ⟨g, rfl, hg, hob⟩ := OutB.of_row hOw.out hRo.out.1 (by omega)
      have HG := hid (And.intro hob hRo.out.2)
      have HBs := hid hRo.out.1
      clear hOw hRo hob hmk
      go_wp2
      go_loopw [9] (fun i wr => ∃ e : Nat, e ≤ k ∧ i = .int .i64 e ∧ Hid (OutB wr g bs k ∧ RowsB wr w1.heap.size bs k (outS es 0 false e)) ∧ Hid (Below w1.heap.size w1 wr)) (fun i _ => k - (intOf i).toNat)
      case atStart => exact ⟨0, Nat.zero_le _, rfl, HG, hB⟩
      case round =>
        obtain ⟨e, he, rfl, hM, hBe⟩ := hrel
        clear HG hB
        by_cases hle : e < k
        · have hle' : (e : Int) < (k : Int) := by omega
          go_wp2
          go_loopw [10] (fun i wx => ∃ f : Nat, f ≤ e ∧ i = .int .i64 f ∧ Hid (OutB wx g bs k ∧ RowsB wx w1.heap.size bs k (innS es 0 false e (outS es 0 false e) f)) ∧ Hid (Below w1.heap.size w1 wx)) (fun i _ => e - (intOf i).toNat)
          case atStart => exact ⟨0, Nat.zero_le _, rfl, hM, hBe⟩
          case round =>
            obtain ⟨f, hf, rfl, hMf, hBf⟩ := hrel
            obtain ⟨wx, rfl⟩ : ∃ wx : World, wx = wr := ⟨_, rfl⟩
            by_cases hlf : f < e
            · have hlf' : (f : Int) < (e : Int) := by omega
              have hfk : (f : Int) < (k : Int) := by omega
              have HBx := hid (show Below w.heap.size w wx from HB1.out.trans (hBf.out.mono HB1.out.size))
              have HXx := hid (HX1.out.on' hBf.out (by have := HS1.out; omega))
              have hxr := HXx.out.1
              have hyr := HXx.out.2
              have hzr := HXx.out.lt
              have hbsl : bs.length = k := HBs.out
              cases g1 : nearB es e f
              · cases g2 : closeB es e f
                · have HC := hid (show condB es false e f ≠ true by unfold condB; rw [g1, g2]; decide)
                  go_wp2_with fail
                  refine (sNear_any s b off k c e f es _ Hn.out hm30 (Hr.out.on HBx.out) hle (by omega)).mono ?_
                  rw [g1]
                  rintro e' w5 ⟨rfl, hb5⟩
                  have hX5 := HXx.out.on hb5
                  have hx5 := hX5.1
                  have hy5 := hX5.2
                  have hz5 := hX5.lt
                  have HB5 := hid hb5
                  clear hb5 hX5 hxr hyr
                  go_wp2_with fail
                  refine (sClose_any s b off k c e f es _ Hn.out hm30 (Hr.out.on (bfrom HBx.out HB5.out)) hle (by omega)).mono ?_
                  rw [g2]
                  rintro e' w6 ⟨rfl, hb6⟩
                  have HB6 := hid (bfrom HB5.out hb6)
                  clear hb6
                  go_wp2
                  go_roundw
                  case rel => exact ⟨f + 1, by omega, by go_num, hid (by unfold innS; rw [if_neg HC.out]; exact ⟨hMf.out.1.on HB6.out, hMf.out.2.on HB6.out⟩), hid (bfrom' hBf.out HB6.out)⟩
                  case measure => simp [intOf]; omega
                · have HC := hid (show condB es false e f = true by unfold condB; rw [g1, g2]; rfl)
                  go_wp2_with fail
                  refine (sNear_any s b off k c e f es _ Hn.out hm30 (Hr.out.on HBx.out) hle (by omega)).mono ?_
                  rw [g1]
                  rintro e' w5 ⟨rfl, hb5⟩
                  have hX5 := HXx.out.on hb5
                  have hx5 := hX5.1
                  have hy5 := hX5.2
                  have hz5 := hX5.lt
                  have HB5 := hid hb5
                  clear hb5 hX5 hxr hyr
                  go_wp2_with fail
                  refine (sClose_any s b off k c e f es _ Hn.out hm30 (Hr.out.on (bfrom HBx.out HB5.out)) hle (by omega)).mono ?_
                  rw [g2]
                  rintro e' w6 ⟨rfl, hb6⟩
                  have HB6 := hid (bfrom HB5.out hb6)
                  clear hb6 hx5 hy5
                  have HM6 := hid (show OutB w6 g bs k ∧ RowsB w6 w1.heap.size bs k (innS es 0 false e (outS es 0 false e) f) from ⟨hMf.out.1.on HB6.out, hMf.out.2.on HB6.out⟩)
                  have HBw6 := hid (bfrom' hBf.out HB6.out)
                  have c1 := HM6.out.1.cell (i := e) (by omega)
                  have c2 := HM6.out.1.cell (i := f) (by omega)
                  have c3 := HM6.out.2.cell (i := e) (j := f) (by omega) (by omega)
                  have c4 := HM6.out.2.cell (i := f) (j := e) (by omega) (by omega)
                  have d1 := HM6.out.2.free (i := e) (by omega) f
                  have d2 := HM6.out.2.free (i := f) (by omega) e
                  have l0 := HM6.out.1.lt
                  have l1 := HM6.out.2.lt (i := e) (by omega)
                  have l2 := HM6.out.2.lt (i := f) (by omega)
                  have hne : ¬ bN bs f = bN bs e := fun h => by have := HM6.out.2.2 f e (by omega) (by omega) h; omega
                  have HST := hid ((HM6.out.2.set (i := e) (j := f) (by omega) (by omega)).set (i := f) (j := e) (by omega) (by omega))
                  have HN1 := hid (HM6.out.1.ne HM6.out.2 (i := e) (by omega))
                  have HN2 := hid (HM6.out.1.ne HM6.out.2 (i := f) (by omega))
                  have HL1 := hid (show w1.heap.size ≤ bN bs e from (HM6.out.2.1 e (by omega)).1)
                  have HL2 := hid (show w1.heap.size ≤ bN bs f from (HM6.out.2.1 f (by omega)).1)
                  obtain ⟨be, hbe⟩ : ∃ be, bN bs e = be := ⟨_, rfl⟩
                  obtain ⟨bf, hbf⟩ : ∃ bf, bN bs f = bf := ⟨_, rfl⟩
                  rw [hbe] at c1 c3 d1 l1 hne HST HN1 HL1
                  rw [hbf] at c2 c4 d2 l2 hne HST HN2 HL2
                  clear hbe hbf
                  go_wp2
                  go_quiet (fail)
                  go_wp2
                  go_roundw
                  case rel =>
                    refine ⟨f + 1, by omega, by go_num, hid ?_, hid ?_⟩
                    · unfold innS
                      rw [if_pos HC.out, Nat.zero_add, Nat.zero_add]
                      exact ⟨((HM6.out.1.drewN _).keep ((heap_setCell_other _ ⟨bf, e, none⟩ g _ HN2.out).trans (heap_setCell_other _ ⟨be, f, none⟩ g _ HN1.out))), HST.out.drewS _⟩
                    · exact ((bdn.2 HBw6.out).setCell (p := ⟨be, f, none⟩) HL1.out _).setCell (p := ⟨bf, e, none⟩) HL2.out _
                  case measure => simp [intOf]; omega
              · have HC := hid (show condB es false e f = true by unfold condB; rw [g1]; rfl)
                go_wp2_with fail
                refine (sNear_any s b off k c e f es _ Hn.out hm30 (Hr.out.on HBx.out) hle (by omega)).mono ?_
                rw [g1]
                rintro e' w6 ⟨rfl, hb6⟩
                have HB6 := hid hb6
                clear hb6 hxr hyr
                have HM6 := hid (show OutB w6 g bs k ∧ RowsB w6 w1.heap.size bs k (innS es 0 false e (outS es 0 false e) f) from ⟨hMf.out.1.on HB6.out, hMf.out.2.on HB6.out⟩)
                have HBw6 := hid (bfrom' hBf.out HB6.out)
                have c1 := HM6.out.1.cell (i := e) (by omega)
                have c2 := HM6.out.1.cell (i := f) (by omega)
                have c3 := HM6.out.2.cell (i := e) (j := f) (by omega) (by omega)
                have c4 := HM6.out.2.cell (i := f) (j := e) (by omega) (by omega)
                have d1 := HM6.out.2.free (i := e) (by omega) f
                have d2 := HM6.out.2.free (i := f) (by omega) e
                have l0 := HM6.out.1.lt
                have l1 := HM6.out.2.lt (i := e) (by omega)
                have l2 := HM6.out.2.lt (i := f) (by omega)
                have hne : ¬ bN bs f = bN bs e := fun h => by have := HM6.out.2.2 f e (by omega) (by omega) h; omega
                have HST := hid ((HM6.out.2.set (i := e) (j := f) (by omega) (by omega)).set (i := f) (j := e) (by omega) (by omega))
                have HN1 := hid (HM6.out.1.ne HM6.out.2 (i := e) (by omega))
                have HN2 := hid (HM6.out.1.ne HM6.out.2 (i := f) (by omega))
                have HL1 := hid (show w1.heap.size ≤ bN bs e from (HM6.out.2.1 e (by omega)).1)
                have HL2 := hid (show w1.heap.size ≤ bN bs f from (HM6.out.2.1 f (by omega)).1)
                obtain ⟨be, hbe⟩ : ∃ be, bN bs e = be := ⟨_, rfl⟩
                obtain ⟨bf, hbf⟩ : ∃ bf, bN bs f = bf := ⟨_, rfl⟩
                rw [hbe] at c1 c3 d1 l1 hne HST HN1 HL1
                rw [hbf] at c2 c4 d2 l2 hne HST HN2 HL2
                clear hbe hbf
                go_wp2
                go_quiet (fail)
                go_wp2
                go_roundw
                case rel =>
                  refine ⟨f + 1, by omega, by go_num, hid ?_, hid ?_⟩
                  · unfold innS
                    rw [if_pos HC.out, Nat.zero_add, Nat.zero_add]
                    exact ⟨((HM6.out.1.drewN _).keep ((heap_setCell_other _ ⟨bf, e, none⟩ g _ HN2.out).trans (heap_setCell_other _ ⟨be, f, none⟩ g _ HN1.out))), HST.out.drewS _⟩
                  · exact ((bdn.2 HBw6.out).setCell (p := ⟨be, f, none⟩) HL1.out _).setCell (p := ⟨bf, e, none⟩) HL2.out _
                case measure => simp [intOf]; omega
            · have hfe := hid (show f = e by omega)
              go_wp2
              go_loopw [13] (fun i wz => i = .int .i64 0 ∧ wz = wx) (fun _ _ => 0)
              case atStart => exact ⟨rfl, rfl⟩
              case round =>
                obtain ⟨rfl, rfl⟩ := hrel
                go_wp2
                go_roundw
                case rel => exact ⟨e + 1, by omega, by go_num, hid (by have h := hMf.out; rw [hfe.out] at h; exact h), hBf⟩
                case measure => simp [intOf]; omega
        · have hek := hid (show e = k by omega)
          go_wp2
          go_ret
          exact ⟨g, cap, bs, rfl, HBs.out, hM.out.1, by have h := hM.out.2.less (show w.heap.size ≤ w1.heap.size from HB1.out.size); rw [hek.out] at h; exact h, HB1.out.trans (hBe.out.mono HB1.out.size)⟩

end Go.Proofs.Ytonlpihbpbnnmaa
