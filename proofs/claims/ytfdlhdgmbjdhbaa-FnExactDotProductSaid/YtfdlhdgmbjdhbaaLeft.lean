/- What is left of a graph in the program: leftOf. -/
import Derived.Test.YtfdlhdgmbjdhbaaRestA
import Derived.Test.YtfdlhdgmbjdhbaaSetI
import Derived.Test.YtfdlhdgmbjdhbaaLawsF
import Derived.Test.YtfdlhdgmbjdhbaaSpecAt
import Derived.Test.YtfdlhdgmbjdhbaaOwnMore
import Derived.Deep.AppendLies
import Derived.Deep.DeepMust
import Derived.Deep.RegionHeld3
import Derived.Deep.DeepCutAuto
import Derived.BigRegion
namespace Go.Proofs.Ytfdlhdgmbjdhbaa
open Go.RowKit

/-- A block that is a graph of the call's own. -/
def GBox (w : World) (b : Nat) (s : Int) (q : Option Addr) (n c : Nat) : Prop := w.heap[b]? = some (.cells #[.int .i64 s, .slice q n c] 28 (0, 0))
section
variable {w w' : World} {b n c : Nat} {s : Int} {q : Option Addr}
theorem GBox.keep (h : GBox w b s q n c) (hk : w'.heap[b]? = w.heap[b]?) : GBox w' b s q n c := hk.trans h
theorem GBox.lt (h : GBox w b s q n c) : b < w.heap.size := (Array.getElem?_eq_some_iff.1 h).1
theorem GBox.on (h : GBox w b s q n c) (hb : Below w.heap.size w w') : GBox w' b s q n c := h.keep (hb.block b h.lt)
theorem GBox.box (h : GBox w b s q n c) : Box w b s q n c := ⟨(cell_of_row w b 0 _ _ _ h).trans rfl, (cell_of_row w b 1 _ _ _ h).trans rfl⟩
theorem GBox.frozen (h : GBox w b s q n c) (j : Nat) : w.frozen? ⟨b, j, none⟩ = false := frozen_of_row w b j _ _ h
theorem GBox.new (w : World) (g : Nat) (hg : g = w.heap.size) : GBox (w.alloc (.cells #[.int .i64 s, .slice q n c] 28)) g s q n c := by
  subst hg
  exact heap_alloc_new w _
theorem GBox.set1 (h : GBox w b s q n c) (q' : Option Addr) (n' c' : Nat) : GBox (w.setCell ⟨b, 1, none⟩ (.slice q' n' c')) b s q' n' c' := (heap_setCell_same w b 1 _ _ _ h).trans rfl
theorem GBox.set0 (h : GBox w b s q n c) (s' : Int) : GBox (w.setCell ⟨b, 0, none⟩ (.int .i64 s')) b s' q n c := (heap_setCell_same w b 0 _ _ _ h).trans rfl
theorem GBox.far (h : GBox w b s q n c) {a : Addr} (ha : b ≠ a.block) (v : Value) : GBox (w.setCell a v) b s q n c := h.keep (heap_setCell_other w a b v ha)
end

theorem grown_one (w : World) (g : Nat) : w.grownBy w (some g) := ⟨rfl, rfl, rfl, Nat.le_refl _, fun _ _ _ => rfl⟩

set_option maxRecDepth 100000 in
set_option maxHeartbeats 16000000 in
theorem iLeft_any (N : Nat) (b off n c k f : Nat) (ps : Option Addr) (es : List (Int × Int)) (xs : List Int) (w : World) (hn : es.length = n) (hn30 : n ≤ 30) (hr : ReadsE w b off es) (hx : xs.length = k) (hk9 : k ≤ 1048576) (hrx : SeesI w ps xs) :
    Calls Try.prog 75 #[.agg #[.int .i64 N, .slice (some ⟨b, off, none⟩) n c], .slice ps k f] w fun e' w' => ∃ g cap, e' = .returned (.agg #[.int .i64 N, .slice (some ⟨g, 0, none⟩) (restE es xs).length cap]) ∧ g < w'.heap.size ∧ ReadsE w' g 0 (restE es xs) ∧ Below w.heap.size w w' := by
  have Hn := hid hn
  have Hr := hid hr
  have Hx := hid hx
  have Hrx := hid hrx
  obtain ⟨i0, hi, hz0, hz1, hz2⟩ := info_parts infoEdge
  have Hi := hid hi
  have hmk0 : ∀ w', (Instr.makeSlice 26 (.int .i64 0) (.int .i64 n)).run Try.prog w' = .ok (.slice (some ⟨w'.heap.size, 0, none⟩) 0 n) (w'.alloc (.cells (madeCells (Value.agg #[.int .i64 0, .int .i64 0]).cells (n * 2)) 57)) := fun w' => by
    have h := run_makeSlice (P := Try.prog) w' 26 57 i0 (.agg #[.int .i64 0, .int .i64 0]) Try.underlying26 hi hz0 .i64 .i64 0 n (Int.le_refl _) (by omega) (by rw [hz1]; omega) (by rw [hz2]; omega) (by omega)
    rw [hz1] at h
    simpa using h
  obtain ⟨ZC, hZC⟩ : ∃ ZC, ZC = madeCells (Value.agg #[.int .i64 0, .int .i64 0]).cells (n * 2) := ⟨_, rfl⟩
  have hzs : ZC.size = n * 2 := by rw [hZC]; exact size_madeCells _ _
  have hmk : ∀ w', (Instr.makeSlice 26 (.int .i64 0) (.int .i64 n)).run Try.prog w' = .ok (.slice (some ⟨w'.heap.size, 0, none⟩) 0 n) (w'.alloc (.cells ZC 57)) := by rw [hZC]; exact hmk0
  have HZS := hid hzs
  clear hn hr hx hrx hi hmk0 hZC hzs
  go_enter Try.func75, Try.ntmps75
  have HX0 := hid (((Box.new w N (some ⟨b, off, none⟩) n c 28).on (on_alloc _ (.cells #[.int .i64 0, .slice none 0 0] 28))))
  have hGR : GBox ((w.alloc (.cells #[.int .i64 N, .slice (some ⟨b, off, none⟩) n c] 28)).alloc (.cells #[.int .i64 0, .slice none 0 0] 28)) (w.heap.size + 1) 0 none 0 0 := GBox.new _ _ (by simp)
  have HGR := hid hGR
  have HB0 := hid (bfrom (on_alloc w (.cells #[.int .i64 N, .slice (some ⟨b, off, none⟩) n c] 28)) (on_alloc _ (.cells #[.int .i64 0, .slice none 0 0] 28)))
  clear hGR
  go_upto_region 1 with fail
  obtain ⟨w2, hw2⟩ : ∃ w2, w2 = ((w.alloc (.cells #[.int .i64 N, .slice (some ⟨b, off, none⟩) n c] 28)).alloc (.cells #[.int .i64 0, .slice none 0 0] 28)) := ⟨_, rfl⟩
  rw [← hw2] at HX0 HGR HB0 ⊢
  clear hw2
  have hx2 := HX0.out.1
  have hy2 := HX0.out.2
  have hz2' := HX0.out.lt
  go_cut [5] (fun u wx => ∃ bL gE, u = .pointer (some ⟨bL, 0, none⟩) ∧ Hid (GBox wx bL N (some ⟨gE, 0, none⟩) 0 n ∧ wx.ownsRow w2.heap.size 57 2 (.slice (some ⟨gE, 0, none⟩) 0 n) 0 [] ∧ bL ≠ gE ∧ w2.heap.size ≤ bL ∧ w2.heap.size ≤ gE ∧ Below w2.heap.size w2 wx))
  case first =>
    go_region
    · go_wp2_with fail
      go_meet
      have h1 : GBox ((w2.alloc (.cells ZC 57)).alloc (.cells #[.int .i64 N, .slice (some ⟨w2.heap.size, 0, none⟩) 0 n] 28)) (w2.heap.size + 1) N (some ⟨w2.heap.size, 0, none⟩) 0 n := GBox.new _ _ (by simp)
      have h2 := World.ownsRow.alloc (World.ownsRow_made (base := w2.heap.size) (e := 57) (size := 2) w2 ZC n (Nat.le_refl _) (by unfold maxLen; omega) HZS.out) (.cells #[.int .i64 N, .slice (some ⟨w2.heap.size, 0, none⟩) 0 n] 28)
      exact ⟨_, _, rfl, hid ⟨h1, h2, by omega, by omega, Nat.le_refl _, (((Below.refl w2.heap.size w2).alloc (Nat.le_refl _) _).alloc (by rw [World.size_alloc]; omega) _).drew⟩⟩
    · go_wp2_with fail
      go_meet
      have h1 : GBox (w2.alloc (.cells #[.int .i64 N, .slice (some ⟨w2.heap.size + 1, 0, none⟩) 0 n] 28)) w2.heap.size N (some ⟨w2.heap.size + 1, 0, none⟩) 0 n := GBox.new _ _ rfl
      have h2 := World.ownsRow_made (base := w2.heap.size) (e := 57) (size := 2) (w2.alloc (.cells #[.int .i64 N, .slice (some ⟨w2.heap.size + 1, 0, none⟩) 0 n] 28)) ZC n (by rw [World.size_alloc]; omega) (by unfold maxLen; omega) HZS.out
      rw [World.size_alloc] at h2
      exact ⟨_, _, rfl, hid ⟨h1.on (Below.drew (on_alloc _ _)), h2, by omega, Nat.le_refl _, by omega, (((Below.refl w2.heap.size w2).alloc (Nat.le_refl _) _).alloc (by rw [World.size_alloc]; omega) _).drew⟩⟩
  case rest =>
  obtain ⟨bL, gE0, rfl, hcb⟩ := hcut
  obtain ⟨w3, rfl⟩ : ∃ w3, w3 = wc := ⟨_, rfl⟩
  have HC3 := hcb
  have hbL := hcb.out.2.2.2.1
  have HB3 := hid hcb.out.2.2.2.2.2
  have HX3 := hid (HX0.out.on HB3.out)
  have hx3 := HX3.out.1
  have hy3 := HX3.out.2
  have hz3' := HX3.out.lt
  clear hcb hx2 hy2
  go_wp2
  go_loopw [18] (fun v wr => ∃ (e l cap gE : Nat), e ≤ n ∧ l ≤ e ∧ v = .int .i64 e ∧ Hid (GBox wr bL N (some ⟨gE, 0, none⟩) l cap ∧ wr.ownsRow w2.heap.size 57 2 (.slice (some ⟨gE, 0, none⟩) l cap) l (edgeVals (restU es xs e)) ∧ (restU es xs e).length = l ∧ bL ≠ gE ∧ w2.heap.size ≤ gE) ∧ Hid (Below w2.heap.size w2 wr)) (fun v _ => n - (intOf v).toNat)
  case atStart => exact ⟨0, 0, n, gE0, Nat.zero_le _, Nat.le_refl _, rfl, hid ⟨HC3.out.1, HC3.out.2.1, rfl, HC3.out.2.2.1, HC3.out.2.2.2.2.1⟩, HB3⟩
  case round =>
    obtain ⟨e, l, cap, gE, he, hle, rfl, hO, hB⟩ := hrel
    clear HC3 hx3 hy3 hz3'
    have HBw := hid (bfrom HB0.out hB.out)
    have hbx := hO.out.1.box.2
    have hbz := hO.out.1.lt
    have hbf := hO.out.1.frozen 1
    have hgz := (hO.out.2.1.lt gE rfl).2
    by_cases hlt : e < n
    · have hbb : b < w.heap.size := reads_lt Hr.out (by have := Hn.out; omega)
      have hbe : b < wr.heap.size := by have := HBw.out.size; omega
      have hc1 := (Hr.out.on HBw.out e (by have := Hn.out; omega)).1
      have hc2 := (Hr.out.on HBw.out e (by have := Hn.out; omega)).2
      obtain ⟨X, hX1⟩ : ∃ X, eA es e = X := ⟨_, rfl⟩
      obtain ⟨Y, hY1⟩ : ∃ Y, eB es e = Y := ⟨_, rfl⟩
      rw [hX1] at hc1
      rw [hY1] at hc2
      have HXY := hid (show eA es e = X ∧ eB es e = Y from ⟨hX1, hY1⟩)
      clear hX1 hY1
      have hl31 : l + 1 ≤ 31 := by omega
      obtain ⟨r, hrr⟩ : ∃ r, decide ((e : Int) ∈ xs) = r := ⟨_, rfl⟩
      have HR := hid hrr
      have HOut := hid (show outB xs e = r by unfold outB; exact hrr)
      clear hrr
      obtain ⟨wo, rfl⟩ : ∃ wo : World, wo = wr := ⟨_, rfl⟩
      have hwz := hB.out.size
      cases r
      · have HGa := hid ((hO.out.1.on (on_alloc wo (.cells #[.int .i64 X, .int .i64 Y] 57))).on (on_alloc _ (.cells #[.int .i64 X, .int .i64 Y] 57)))
        have HRa := hid ((hO.out.2.1.alloc (.cells #[.int .i64 X, .int .i64 Y] 57)).alloc (.cells #[.int .i64 X, .int .i64 Y] 57))
        have HNew := hid (show ((wo.alloc (.cells #[.int .i64 X, .int .i64 Y] 57)).alloc (.cells #[.int .i64 X, .int .i64 Y] 57)).heap[wo.heap.size + 1]? = some (.cells #[.int .i64 X, .int .i64 Y] 57 (0, 0)) by
          have h := heap_alloc_new (wo.alloc (.cells #[.int .i64 X, .int .i64 Y] 57)) (.cells #[.int .i64 X, .int .i64 Y] 57)
          rw [World.size_alloc] at h
          exact h)
        go_wp2_with (first
          | (go_at_call 72; refine (iContains_any _ _ _ _ xs _ Hx.out hk9 ((Hrx.out.on HBw.out).on (on_alloc _ _))).mono ?_; rw [HR.out]; rintro e' w4 ⟨rfl, rfl⟩)
          | (at_builtin; go_must (refine wpList_append_lies _ rfl (.tmp 28) (.tmp 30) 26 rfl w2.heap.size 57 i0 _ 2 16 Try.underlying26 Hi.out hz0 hz1 hz2 rfl (by decide) (.slice (some ⟨gE, 0, none⟩) l cap) l _ rfl HRa.out ⟨wo.heap.size + 1, 0, none⟩ 1 1 [.int .i64 X, .int .i64 Y] rfl rfl (World.news_of_block (cs := #[.int .i64 X, .int .i64 Y]) (t := 57) (fr := (0, 0)) HNew.out) (by simp [Value.oneCell']) (by decide) (by unfold maxLen; omega) (by omega) (by simp; omega) (wo.heap.size + 1 + 1) (by simp) ?_); intro g5 cap5 w5 hown5 hgrow5 hlie5 hg5; have Hown := hid hown5; have Hgrow := hid hgrow5; have Hlie := hid hlie5; have HG5 : GBox w5 bL N (some ⟨gE, 0, none⟩) l cap := HGa.out.keep (hgrow5.block bL (by simp; omega) (fun h => hO.out.2.2.2.1 (Option.some.inj h))); have hb5 := HG5.box.2; have hf5 := HG5.frozen 1; clear hown5 hgrow5 hlie5))
        have HG6 := hid HG5
        have hg5 : g5 = gE ∨ g5 = wo.heap.size + 1 + 1 := by
          rcases Hlie.out with h | h
          · exact .inl (Option.some.inj h).symm
          · exact .inr h
        go_roundw
        case rel =>
          refine ⟨e + 1, l + 1, cap5, g5, by omega, by omega, by go_num, hid ⟨HG6.out.set1 _ _ _, ?_, ?_, ?_, ?_⟩, hid ?_⟩
          · rw [restU_yes HOut.out, edgeVals_append, HXY.out.1, HXY.out.2]
            exact Hown.out.kept (row := some bL) (gset (grown_one w5 bL) 1 _) (.inr (fun h => by have h' := Option.some.inj h; have := hO.out.2.2.2.1; have h'' : g5 = bL := h'; omega))
          · rw [restU_yes HOut.out, List.length_append, hO.out.2.2.1]; rfl
          · have := hO.out.2.2.2.1; omega
          · have := hO.out.2.2.2.2; omega
          · exact (((hB.out.alloc hwz _).alloc (by rw [World.size_alloc]; omega) _).grown Hgrow.out (by simp; omega) (fun j hj => by cases hj; exact hO.out.2.2.2.2)).setCell (p := ⟨bL, 1, none⟩) hbL _
        case measure => simp [intOf]; omega
      · go_wp2_with (go_at_call 72; refine (iContains_any _ _ _ _ xs _ Hx.out hk9 ((Hrx.out.on HBw.out).on (on_alloc _ _))).mono ?_; rw [HR.out]; rintro e' w4 ⟨rfl, rfl⟩)
        go_roundw
        case rel => exact ⟨e + 1, l, cap, gE, by omega, by omega, by go_num, hid (by rw [restU_no HOut.out]; exact ⟨hO.out.1.on (on_alloc _ _), hO.out.2.1.alloc _, hO.out.2.2⟩), hid (hB.out.alloc hwz _)⟩
        case measure => simp [intOf]; omega
    · have hen := hid (show e = n by omega)
      have HRest := hid (show restU es xs e = restE es xs by unfold restE; rw [hen.out, Hn.out])
      have HG := hid (HGR.out.on hB.out)
      have hr0 := HG.out.box.1
      have hr1 := HG.out.box.2
      have hf0 := HG.out.frozen 0
      have hf1 := HG.out.frozen 1
      have hrz := HG.out.lt
      have hrz2 := HGR.out.lt
      have hb0 := hO.out.1.box.1
      have HGS := hid ((HG.out.set0 (N : Int)).set1 (some ⟨gE, 0, none⟩) l cap)
      go_wp2
      obtain ⟨o1, o2, o3, o4, o5⟩ := hO.out
      rw [HRest.out] at o2 o3
      have hOE := (OwnE.of_row o2 o3).1
      have hRd : ReadsE ((wr.setCell ⟨w.heap.size + 1, 0, none⟩ (.int .i64 N)).setCell ⟨w.heap.size + 1, 1, none⟩ (.slice (some ⟨gE, 0, none⟩) l cap)) gE 0 (restE es xs) := ((hOE.far (a := ⟨w.heap.size + 1, 0, none⟩) (by show gE ≠ w.heap.size + 1; omega) _).far (a := ⟨w.heap.size + 1, 1, none⟩) (by show gE ≠ w.heap.size + 1; omega) _).reads
      refine bodyPost_ret (results_cell_row rfl _ _ (w.heap.size + 1) _ _ _ _ rfl HGS.out Try.underlying28 rfl (by kernel_rfl)) rfl ⟨gE, cap, by rw [o3], ?_, hRd, ?_⟩
      · simpa [World.setCell] using hgz
      · have h0 := bfrom HB0.out hB.out
        exact (h0.setCell (p := ⟨w.heap.size + 1, 0, none⟩) (by show w.heap.size ≤ w.heap.size + 1; omega) _).setCell (p := ⟨w.heap.size + 1, 1, none⟩) (by show w.heap.size ≤ w.heap.size + 1; omega) _

end Go.Proofs.Ytfdlhdgmbjdhbaa
