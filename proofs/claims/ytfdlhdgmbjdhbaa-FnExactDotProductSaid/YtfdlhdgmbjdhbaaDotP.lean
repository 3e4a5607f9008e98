/- dotProduct in the program. -/
import Derived.Test.YtfdlhdgmbjdhbaaImplG
import Derived.Deep.RegionWith
import Derived.Deep.DeepCutAuto
import Derived.Deep.AppendLies
import Derived.Test.YtfdlhdgmbjdhbaaLeft
import Derived.BigQuiet
import Derived.Test.YtfdlhdgmbjdhbaaDotF
import Derived.Test.YtfdlhdgmbjdhbaaFolB
import Derived.Test.YtfdlhdgmbjdhbaaCatE
import Derived.Test.YtfdlhdgmbjdhbaaStrA
import Derived.Deep.RegionHeld3

/- leftOf for more edges, and joining, in the program. -/
namespace Go.Proofs.Ytfdlhdgmbjdhbaa
open Go.RowKit Go.Lib

set_option maxRecDepth 100000 in
set_option maxHeartbeats 16000000 in
theorem iLeftD_any (N : Nat) (b off n c k f : Nat) (ps : Option Addr) (es : List (Int × Int)) (xs : List Int) (w : World) (hn : es.length = n) (hn30 : n ≤ 100) (hr : ReadsE w b off es) (hx : xs.length = k) (hk9 : k ≤ 1048576) (hrx : SeesI w ps xs) :
    Calls Try.prog 75 #[.agg #[.int .i64 N, .slice (some ⟨b, off, none⟩) n c], .slice ps k f] w fun e' w' => ∃ g cap, e' = .returned (.agg #[.int .i64 N, .slice (some ⟨g, 0, none⟩) (restE es xs).length cap]) ∧ w.heap.size ≤ g ∧ OwnE w' g cap (restE es xs) ∧ Below w.heap.size w w' := by
  have Hn := hid hn
  have Hr := hid hr
  have Hx := hid hx
  have Hrx := hid hrx
  obtain ⟨i0, hi, hz0, hz1, hz2⟩ := info_parts infoEdge
  have Hi := hid hi
  have hmk0 : ∀ w', (Instr.makeSlice 26 (.int .i64 0) (.int .i64 n)).run Try.prog w' = .ok (.slice (some ⟨w'.heap.size, 0, none⟩) 0 n) (w'.alloc (.cells (madeCells (Value.agg #[.int .i64 0, .int .i64 0]).cells (n * 2)) 57)) := fun w' => by
    have h := run_makeSlice (P := Try.prog) w' 26 57 i0 (.agg #[.int .i64 0, .int .i64 0]) Try.underlying26 hi hz0 .i64 .i64 0 n (Int.le_refl _) (by omega) (by rw [hz1]; omega) (by rw [hz2]; omega) (by omega)
    rw [hz1] at h
    simpa using h
  obtain ⟨ZC, hZC⟩ : ∃ ZC, ZC = madeCells (Value.agg #[.int .i64 0, .int .i64 0]).cells (n * 2) := ⟨_, rfl⟩
  have hzs : ZC.size = n * 2 := by rw [hZC]; exact size_madeCells _ _
  have hmk : ∀ w', (Instr.makeSlice 26 (.int .i64 0) (.int .i64 n)).run Try.prog w' = .ok (.slice (some ⟨w'.heap.size, 0, none⟩) 0 n) (w'.alloc (.cells ZC 57)) := by rw [hZC]; exact hmk0
  have HZS := hid hzs
  clear hn hr hx hrx hi hmk0 hZC hzs
  go_enter Try.func75, Try.ntmps75
  have HX0 := hid (((Box.new w N (some ⟨b, off, none⟩) n c 28).on (on_alloc _ (.cells #[.int .i64 0, .slice none 0 0] 28))))
  have hGR : GBox ((w.alloc (.cells #[.int .i64 N, .slice (some ⟨b, off, none⟩) n c] 28)).alloc (.cells #[.int .i64 0, .slice none 0 0] 28)) (w.heap.size + 1) 0 none 0 0 := GBox.new _ _ (by simp)
  have HGR := hid hGR
  have HB0 := hid (bfrom (on_alloc w (.cells #[.int .i64 N, .slice (some ⟨b, off, none⟩) n c] 28)) (on_alloc _ (.cells #[.int .i64 0, .slice none 0 0] 28)))
  clear hGR
  go_upto_region 1 with fail
  obtain ⟨w2, hw2⟩ : ∃ w2, w2 = ((w.alloc (.cells #[.int .i64 N, .slice (some ⟨b, off, none⟩) n c] 28)).alloc (.cells #[.int .i64 0, .slice none 0 0] 28)) := ⟨_, rfl⟩
  rw [← hw2] at HX0 HGR HB0 ⊢
  clear hw2
  have hx2 := HX0.out.1
  have hy2 := HX0.out.2
  have hz2' := HX0.out.lt
  go_cut [5] (fun u wx => ∃ bL gE, u = .pointer (some ⟨bL, 0, none⟩) ∧ Hid (GBox wx bL N (some ⟨gE, 0, none⟩) 0 n ∧ wx.ownsRow w2.heap.size 57 2 (.slice (some ⟨gE, 0, none⟩) 0 n) 0 [] ∧ bL ≠ gE ∧ w2.heap.size ≤ bL ∧ w2.heap.size ≤ gE ∧ Below w2.heap.size w2 wx))
  case first =>
    go_region
    · go_wp2_with fail
      go_meet
      have h1 : GBox ((w2.alloc (.cells ZC 57)).alloc (.cells #[.int .i64 N, .slice (some ⟨w2.heap.size, 0, none⟩) 0 n] 28)) (w2.heap.size + 1) N (some ⟨w2.heap.size, 0, none⟩) 0 n := GBox.new _ _ (by simp)
      have h2 := World.ownsRow.alloc (World.ownsRow_made (base := w2.heap.size) (e := 57) (size := 2) w2 ZC n (Nat.le_refl _) (by unfold maxLen; omega) HZS.out) (.cells #[.int .i64 N, .slice (some ⟨w2.heap.size, 0, none⟩) 0 n] 28)
      exact ⟨_, _, rfl, hid ⟨h1, h2, by omega, by omega, Nat.le_refl _, (((Below.refl w2.heap.size w2).alloc (Nat.le_refl _) _).alloc (by rw [World.size_alloc]; omega) _).drew⟩⟩
    · go_wp2_with fail
      go_meet
      have h1 : GBox (w2.alloc (.cells #[.int .i64 N, .slice (some ⟨w2.heap.size + 1, 0, none⟩) 0 n] 28)) w2.heap.size N (some ⟨w2.heap.size + 1, 0, none⟩) 0 n := GBox.new _ _ rfl
      have h2 := World.ownsRow_made (base := w2.heap.size) (e := 57) (size := 2) (w2.alloc (.cells #[.int .i64 N, .slice (some ⟨w2.heap.size + 1, 0, none⟩) 0 n] 28)) ZC n (by rw [World.size_alloc]; omega) (by unfold maxLen; omega) HZS.out
      rw [World.size_alloc] at h2
      exact ⟨_, _, rfl, hid ⟨h1.on (Below.drew (on_alloc _ _)), h2, by omega, Nat.le_refl _, by omega, (((Below.refl w2.heap.size w2).alloc (Nat.le_refl _) _).alloc (by rw [World.size_alloc]; omega) _).drew⟩⟩
  case rest =>
  obtain ⟨bL, gE0, rfl, hcb⟩ := hcut
  obtain ⟨w3, rfl⟩ : ∃ w3, w3 = wc := ⟨_, rfl⟩
  have HC3 := hcb
  have hbL := hcb.out.2.2.2.1
  have HB3 := hid hcb.out.2.2.2.2.2
  have HX3 := hid (HX0.out.on HB3.out)
  have hx3 := HX3.out.1
  have hy3 := HX3.out.2
  have hz3' := HX3.out.lt
  clear hcb hx2 hy2
  go_wp2
  go_loopw [18] (fun v wr => ∃ (e l cap gE : Nat), e ≤ n ∧ l ≤ e ∧ v = .int .i64 e ∧ Hid (GBox wr bL N (some ⟨gE, 0, none⟩) l cap ∧ wr.ownsRow w2.heap.size 57 2 (.slice (some ⟨gE, 0, none⟩) l cap) l (edgeVals (restU es xs e)) ∧ (restU es xs e).length = l ∧ bL ≠ gE ∧ w2.heap.size ≤ gE) ∧ Hid (Below w2.heap.size w2 wr)) (fun v _ => n - (intOf v).toNat)
  case atStart => exact ⟨0, 0, n, gE0, Nat.zero_le _, Nat.le_refl _, rfl, hid ⟨HC3.out.1, HC3.out.2.1, rfl, HC3.out.2.2.1, HC3.out.2.2.2.2.1⟩, HB3⟩
  case round =>
    obtain ⟨e, l, cap, gE, he, hle, rfl, hO, hB⟩ := hrel
    clear HC3 hx3 hy3 hz3'
    have HBw := hid (bfrom HB0.out hB.out)
    have hbx := hO.out.1.box.2
    have hbz := hO.out.1.lt
    have hbf := hO.out.1.frozen 1
    have hgz := (hO.out.2.1.lt gE rfl).2
    by_cases hlt : e < n
    · have hbb : b < w.heap.size := reads_lt Hr.out (by have := Hn.out; omega)
      have hbe : b < wr.heap.size := by have := HBw.out.size; omega
      have hc1 := (Hr.out.on HBw.out e (by have := Hn.out; omega)).1
      have hc2 := (Hr.out.on HBw.out e (by have := Hn.out; omega)).2
      obtain ⟨X, hX1⟩ : ∃ X, eA es e = X := ⟨_, rfl⟩
      obtain ⟨Y, hY1⟩ : ∃ Y, eB es e = Y := ⟨_, rfl⟩
      rw [hX1] at hc1
      rw [hY1] at hc2
      have HXY := hid (show eA es e = X ∧ eB es e = Y from ⟨hX1, hY1⟩)
      clear hX1 hY1
      have hl31 : l + 1 ≤ 101 := by omega
      obtain ⟨r, hrr⟩ : ∃ r, decide ((e : Int) ∈ xs) = r := ⟨_, rfl⟩
      have HR := hid hrr
      have HOut := hid (show outB xs e = r by unfold outB; exact hrr)
      clear hrr
      obtain ⟨wo, rfl⟩ : ∃ wo : World, wo = wr := ⟨_, rfl⟩
      have hwz := hB.out.size
      cases r
      · have HGa := hid ((hO.out.1.on (on_alloc wo (.cells #[.int .i64 X, .int .i64 Y] 57))).on (on_alloc _ (.cells #[.int .i64 X, .int .i64 Y] 57)))
        have HRa := hid ((hO.out.2.1.alloc (.cells #[.int .i64 X, .int .i64 Y] 57)).alloc (.cells #[.int .i64 X, .int .i64 Y] 57))
        have HNew := hid (show ((wo.alloc (.cells #[.int .i64 X, .int .i64 Y] 57)).alloc (.cells #[.int .i64 X, .int .i64 Y] 57)).heap[wo.heap.size + 1]? = some (.cells #[.int .i64 X, .int .i64 Y] 57 (0, 0)) by
          have h := heap_alloc_new (wo.alloc (.cells #[.int .i64 X, .int .i64 Y] 57)) (.cells #[.int .i64 X, .int .i64 Y] 57)
          rw [World.size_alloc] at h
          exact h)
        go_wp2_with (first
          | (go_at_call 72; refine (iContains_any _ _ _ _ xs _ Hx.out hk9 ((Hrx.out.on HBw.out).on (on_alloc _ _))).mono ?_; rw [HR.out]; rintro e' w4 ⟨rfl, rfl⟩)
          | (at_builtin; go_must (refine wpList_append_lies _ rfl (.tmp 28) (.tmp 30) 26 rfl w2.heap.size 57 i0 _ 2 16 Try.underlying26 Hi.out hz0 hz1 hz2 rfl (by decide) (.slice (some ⟨gE, 0, none⟩) l cap) l _ rfl HRa.out ⟨wo.heap.size + 1, 0, none⟩ 1 1 [.int .i64 X, .int .i64 Y] rfl rfl (World.news_of_block (cs := #[.int .i64 X, .int .i64 Y]) (t := 57) (fr := (0, 0)) HNew.out) (by simp [Value.oneCell']) (by decide) (by unfold maxLen; omega) (by omega) (by simp; omega) (wo.heap.size + 1 + 1) (by simp) ?_); intro g5 cap5 w5 hown5 hgrow5 hlie5 hg5; have Hown := hid hown5; have Hgrow := hid hgrow5; have Hlie := hid hlie5; have HG5 : GBox w5 bL N (some ⟨gE, 0, none⟩) l cap := HGa.out.keep (hgrow5.block bL (by simp; omega) (fun h => hO.out.2.2.2.1 (Option.some.inj h))); have hb5 := HG5.box.2; have hf5 := HG5.frozen 1; clear hown5 hgrow5 hlie5))
        have HG6 := hid HG5
        have hg5 : g5 = gE ∨ g5 = wo.heap.size + 1 + 1 := by
          rcases Hlie.out with h | h
          · exact .inl (Option.some.inj h).symm
          · exact .inr h
        go_roundw
        case rel =>
          refine ⟨e + 1, l + 1, cap5, g5, by omega, by omega, by go_num, hid ⟨HG6.out.set1 _ _ _, ?_, ?_, ?_, ?_⟩, hid ?_⟩
          · rw [restU_yes HOut.out, edgeVals_append, HXY.out.1, HXY.out.2]
            exact Hown.out.kept (row := some bL) (gset (grown_one w5 bL) 1 _) (.inr (fun h => by have h' := Option.some.inj h; have := hO.out.2.2.2.1; have h'' : g5 = bL := h'; omega))
          · rw [restU_yes HOut.out, List.length_append, hO.out.2.2.1]; rfl
          · have := hO.out.2.2.2.1; omega
          · have := hO.out.2.2.2.2; omega
          · exact (((hB.out.alloc hwz _).alloc (by rw [World.size_alloc]; omega) _).grown Hgrow.out (by simp; omega) (fun j hj => by cases hj; exact hO.out.2.2.2.2)).setCell (p := ⟨bL, 1, none⟩) hbL _
        case measure => simp [intOf]; omega
      · go_wp2_with (go_at_call 72; refine (iContains_any _ _ _ _ xs _ Hx.out hk9 ((Hrx.out.on HBw.out).on (on_alloc _ _))).mono ?_; rw [HR.out]; rintro e' w4 ⟨rfl, rfl⟩)
        go_roundw
        case rel => exact ⟨e + 1, l, cap, gE, by omega, by omega, by go_num, hid (by rw [restU_no HOut.out]; exact ⟨hO.out.1.on (on_alloc _ _), hO.out.2.1.alloc _, hO.out.2.2⟩), hid (hB.out.alloc hwz _)⟩
        case measure => simp [intOf]; omega
    · have hen := hid (show e = n by omega)
      have HRest := hid (show restU es xs e = restE es xs by unfold restE; rw [hen.out, Hn.out])
      have HG := hid (HGR.out.on hB.out)
      have hr0 := HG.out.box.1
      have hr1 := HG.out.box.2
      have hf0 := HG.out.frozen 0
      have hf1 := HG.out.frozen 1
      have hrz := HG.out.lt
      have hrz2 := HGR.out.lt
      have hb0 := hO.out.1.box.1
      have HGS := hid ((HG.out.set0 (N : Int)).set1 (some ⟨gE, 0, none⟩) l cap)
      go_wp2
      obtain ⟨o1, o2, o3, o4, o5⟩ := hO.out
      rw [HRest.out] at o2 o3
      have hOE := (OwnE.of_row o2 o3).1
      have hRd : OwnE ((wr.setCell ⟨w.heap.size + 1, 0, none⟩ (.int .i64 N)).setCell ⟨w.heap.size + 1, 1, none⟩ (.slice (some ⟨gE, 0, none⟩) l cap)) gE cap (restE es xs) := (hOE.far (a := ⟨w.heap.size + 1, 0, none⟩) (by show gE ≠ w.heap.size + 1; omega) _).far (a := ⟨w.heap.size + 1, 1, none⟩) (by show gE ≠ w.heap.size + 1; omega) _
      refine bodyPost_ret (results_cell_row rfl _ _ (w.heap.size + 1) _ _ _ _ rfl HGS.out Try.underlying28 rfl (by kernel_rfl)) rfl ⟨gE, cap, by rw [o3], by have := HB0.out.size; omega, hRd, ?_⟩
      · have h0 := bfrom HB0.out hB.out
        exact (h0.setCell (p := ⟨w.heap.size + 1, 0, none⟩) (by show w.heap.size ≤ w.heap.size + 1; omega) _).setCell (p := ⟨w.heap.size + 1, 1, none⟩) (by show w.heap.size ≤ w.heap.size + 1; omega) _


set_option maxRecDepth 100000 in
set_option maxHeartbeats 2000000 in
theorem iJoin2_any (a b : Int) (w : World) :
    Calls Try.prog 38 #[.int .i64 a, .int .i64 b] w fun r w' => r = .returned (.agg #[.int .i64 (min a b), .int .i64 (max a b)]) ∧ Below w.heap.size w w' := by
  by_cases h : a ≤ b
  · have e1 : min a b = a := by omega
    have e2 : max a b = b := by omega
    rw [e1, e2]
    have E1 := hid e1
    have E2 := hid e2
    clear e1 e2
    by_cases h2 : a = b
    · subst h2
      go_enter Try.func38, Try.ntmps38
      go_wp2
      refine bodyPost_ret (v := .agg #[.int .i64 a, .int .i64 a]) (by simp [results, Try.results38, go_sem]) rfl ⟨rfl, ?_⟩
      have := Below.refl w.heap.size w
      go_grown
    · have h3 : a < b := by omega
      go_enter Try.func38, Try.ntmps38
      go_wp2
      refine bodyPost_ret (v := .agg #[.int .i64 a, .int .i64 b]) (by simp [results, Try.results38, go_sem, E1.out, E2.out]) rfl ⟨rfl, ?_⟩
      have := Below.refl w.heap.size w
      go_grown
  · have e1 : min a b = b := by omega
    have e2 : max a b = a := by omega
    have h3 : b < a := by omega
    rw [e1, e2]
    have E1 := hid e1
    have E2 := hid e2
    clear e1 e2
    go_enter Try.func38, Try.ntmps38
    go_wp2
    refine bodyPost_ret (v := .agg #[.int .i64 b, .int .i64 a]) (by simp [results, Try.results38, go_sem, E1.out, E2.out]) rfl ⟨rfl, ?_⟩
    have := Below.refl w.heap.size w
    go_grown


end Go.Proofs.Ytfdlhdgmbjdhbaa

namespace Go.Proofs.Ytfdlhdgmbjdhbaa
open Go.RowKit Go.Lib

theorem reads_twoD (w : World) (x y : Int) (t : TypeId) (g : Nat) (hg : g = w.heap.size) : ReadsI (w.alloc (.cells #[.int .i64 x, .int .i64 y] t)) g 0 [x, y] := fun i hi => by
  subst hg
  rcases (by simp at hi; omega : i = 0 ∨ i = 1) with rfl | rfl <;> simp [eI]
theorem ends_reads {w : World} {b off E : Nat} {es : List (Int × Int)} (hr : ReadsE w b off es) (hE : E < es.length) : ReadsI w b (off + E * 2) [eA es E, eB es E] := fun i hi => by
  obtain ⟨h1, h2⟩ := hr E hE
  rcases (by simp at hi; omega : i = 0 ∨ i = 1) with rfl | rfl
  · exact h1
  · exact h2
theorem iEndsD_any (s v x y : Int) (b off n c : Nat) (es : List (Int × Int)) (L : List Int) (w : World) (hn100 : n ≤ 100) (hn : es.length = n) (hr : ReadsE w b off es) (hbl : b < w.heap.size) (hL : endL es x y (arF es v) = L) (h2 : L.length = 2) :
    Calls Try.prog 77 #[.agg #[.int .i64 s, .slice (some ⟨b, off, none⟩) n c], .int .i64 v, .agg #[.int .i64 x, .int .i64 y]] w fun e w' => ∃ g cap, e = .returned (.slice (some ⟨g, 0, none⟩) 2 cap) ∧ w.heap.size ≤ g ∧ OwnI w' g cap L ∧ Below w.heap.size w w' := by
  have h := iEndA_any s v x y b off n c es w hn100 hn hr hbl
  rw [hL, h2] at h
  refine h.mono ?_
  rintro e w' ⟨q, cap, rfl, hf, hb⟩
  rcases hf.form with ⟨_, h0, _⟩ | ⟨g, rfl, hg, ho⟩
  · omega
  · exact ⟨g, cap, rfl, hg, ho, hb⟩
theorem holds_three {w : World} {ba g1 c1 g2 c2 g3 c3 k1 : Nat} {X Y Z : List (Int × Int)} {t : TypeId} (hb : w.heap[ba]? = some (.cells #[.slice (some ⟨g1, 0, none⟩) k1 c1, .slice (some ⟨g2, 0, none⟩) 2 c2, .slice (some ⟨g3, 0, none⟩) 2 c3] t (0, 0))) (h1 : OwnE w g1 c1 X) (h2 : OwnE w g2 c2 Y) (h3 : OwnE w g3 c3 Z) (l1 : X.length = k1) (l2 : Y.length = 2) (l3 : Z.length = 2) (hk : 0 < k1) : HoldsE w ba [X, Y, Z] := fun i hi => by
  have hbl : ba < w.heap.size := (Array.getElem?_eq_some_iff.1 hb).1
  rcases (by simp at hi; omega : i = 0 ∨ i = 1 ∨ i = 2) with rfl | rfl | rfl
  · exact ⟨g1, 0, c1, by rw [cell_of_row w ba 0 _ _ _ hb]; show some (Value.slice (some ⟨g1, 0, none⟩) k1 c1) = some (Value.slice (some ⟨g1, 0, none⟩) X.length c1); rw [l1], h1.reads, by show 0 < X.length; omega, hbl, h1.lt⟩
  · exact ⟨g2, 0, c2, by rw [cell_of_row w ba 1 _ _ _ hb]; show some (Value.slice (some ⟨g2, 0, none⟩) 2 c2) = some (Value.slice (some ⟨g2, 0, none⟩) Y.length c2); rw [l2], h2.reads, by show 0 < Y.length; omega, hbl, h2.lt⟩
  · exact ⟨g3, 0, c3, by rw [cell_of_row w ba 2 _ _ _ hb]; show some (Value.slice (some ⟨g3, 0, none⟩) 2 c3) = some (Value.slice (some ⟨g3, 0, none⟩) Z.length c3); rw [l3], h3.reads, by show 0 < Z.length; omega, hbl, h3.lt⟩
theorem dotP_in {s t : Int} {es fs : List (Int × Int)} (g1 : IsG s es) (g2 : IsG t fs) {e f : Nat} (he : e < es.length) (hf : f < es.length) {A B : List Int} (hA : A.length = 2) (hB : B.length = 2) (hAi : ∀ i, i < 2 → 0 ≤ eI A i ∧ eI A i < t) (hBi : ∀ i, i < 2 → 0 ≤ eI B i ∧ eI B i < t) {p : Int × Int} (hp : p ∈ dotP s es e f fs A B) :
    (0 ≤ p.1 ∧ p.1 ≤ 1000) ∧ (0 ≤ p.2 ∧ p.2 ≤ 1000) := by
  have k1 := g1.1.1
  have k2 := g2.1.1
  unfold okSize at k1 k2
  have hE := isG_pos g1 he
  have hF := isG_pos g1 hf
  have pr : ∀ (L : List Int) (x y : Int), L.length = 2 → (∀ i, i < 2 → 0 ≤ eI L i ∧ eI L i < t) → 0 ≤ x ∧ x < s → 0 ≤ y ∧ y < s → p ∈ pairL [x, y] (L.map (s + ·)) 2 → (0 ≤ p.1 ∧ p.1 ≤ 1000) ∧ (0 ≤ p.2 ∧ p.2 ≤ 1000) := fun L x y hL hi hx hy hp => by
    have h0 : eI (L.map (s + ·)) 0 = s + eI L 0 := by rw [eI_lt (by rw [List.length_map]; omega), eI_lt (by omega), List.getElem_map]
    have h1 : eI (L.map (s + ·)) 1 = s + eI L 1 := by rw [eI_lt (by rw [List.length_map]; omega), eI_lt (by omega), List.getElem_map]
    have a0 := hi 0 (by omega)
    have a1 := hi 1 (by omega)
    have hl : pairL [x, y] (L.map (s + ·)) 2 = [(x, s + eI L 0), (y, s + eI L 1)] := by
      show [(eI [x, y] 0, eI (L.map (s + ·)) 0), (eI [x, y] 1, eI (L.map (s + ·)) 1)] = _
      rw [h0, h1]
      rfl
    rw [hl] at hp
    rcases List.mem_cons.1 hp with rfl | hp
    · dsimp only; omega
    · obtain rfl := List.mem_singleton.1 hp
      dsimp only; omega
  unfold dotP at hp
  rcases List.mem_append.1 hp with hp | hp
  · rcases List.mem_append.1 hp with hp | hp
    · rw [rest_beside s he hf] at hp
      rcases List.mem_append.1 hp with hp | hp
      · unfold restE restU at hp
        obtain ⟨j, hj, rfl⟩ := List.mem_map.1 hp
        have := isG_pos g1 (List.mem_range.1 (List.mem_filter.1 hj).1)
        dsimp only; omega
      · unfold upE at hp
        obtain ⟨q, hq, rfl⟩ := List.mem_map.1 hp
        obtain ⟨j, hj, rfl⟩ := List.getElem_of_mem hq
        have := isG_pos g2 hj
        rw [eA_lt hj, eB_lt hj] at this
        dsimp only; omega
    · exact pr A _ _ hA hAi ⟨hE.1, hE.2.1⟩ ⟨hE.2.2.1, hE.2.2.2.1⟩ hp
  · exact pr B _ _ hB hBi ⟨hF.1, hF.2.1⟩ ⟨hF.2.2.1, hF.2.2.2.1⟩ hp
theorem restE_len2 {es : List (Int × Int)} {e f : Nat} : (restE es [(e : Int), (f : Int)]).length ≤ es.length := restU_len _ _ _

set_option maxRecDepth 100000 in
set_option maxHeartbeats 16000000 in
theorem iDot_any (b off n c b2 o2 m d E F : Nat) (s t a b' x y e f : Int) (es fs : List (Int × Int)) (A B : List Int) (w : World) (hn : es.length = n) (hr : ReadsE w b off es) (hn2 : fs.length = m) (hr2 : ReadsE w b2 o2 fs) (g1 : IsG s es) (g2 : IsG t fs) (hE : E < n) (hF : F < n) (he : (E : Int) = e) (hf : (F : Int) = f)
    (ha : 0 ≤ a ∧ a < t) (hb : 0 ≤ b' ∧ b' < t) (hst : s + t ≤ 22) (hx : min a b' = x) (hy : max a b' = y) (hA : endL fs x y (arF fs a) = A) (hB : endL fs x y (arF fs b') = B) (hA2 : A.length = 2) (hB2 : B.length = 2) (hAi : ∀ i, i < 2 → 0 ≤ eI A i ∧ eI A i < t) (hBi : ∀ i, i < 2 → 0 ≤ eI B i ∧ eI B i < t) (hAo : ∀ i, i < 2 → ¬ eI A i ∈ [a, b']) (hBo : ∀ i, i < 2 → ¬ eI B i ∈ [a, b']) :
    Calls Try.prog 39 #[.agg #[.int .i64 s, .slice (some ⟨b, off, none⟩) n c], .int .i64 e, .int .i64 f, .agg #[.int .i64 t, .slice (some ⟨b2, o2, none⟩) m d], .int .i64 a, .int .i64 b'] w fun e' w' => ∃ g, e' = .returned (.agg #[.int .i64 (s + t - 2), .slice (some ⟨g, 0, none⟩) (dotM s es E F fs a b' A B).length (dotM s es E F fs a b' A B).length]) ∧ w.heap.size ≤ g ∧ OwnE w' g (dotM s es E F fs a b' A B).length (sortE (dotM s es E F fs a b' A B)) ∧ Below w.heap.size w w' := by
  have hn30 : n ≤ 30 := by have := isG_len g1; omega
  have hm30 : m ≤ 30 := by have := isG_len g2; omega
  have k1 := g1.1.1
  have k2 := g2.1.1
  unfold okSize at k1 k2
  have hn3 : 3 ≤ n := by omega
  have hm3 : 3 ≤ m := by omega
  have hE2 : EndsIn 100 fs := fun i hi => by have := isG_pos g2 hi; omega
  have hDs := dot_same g1 g2 (show E < es.length by omega) (show F < es.length by omega) ha hb hA2 hB2 hAo hBo
  obtain ⟨DM, hDM⟩ : ∃ DM, dotM s es E F fs a b' A B = DM := ⟨_, rfl⟩
  obtain ⟨DP, hDP⟩ : ∃ DP, dotP s es E F fs A B = DP := ⟨_, rfl⟩
  obtain ⟨LM, hLM⟩ : ∃ LM, DM.length = LM := ⟨_, rfl⟩
  obtain ⟨RL, hRL⟩ : ∃ RL, restE (es ++ upE s fs) [(E : Int), (F : Int)] = RL := ⟨_, rfl⟩
  obtain ⟨PA, hPA⟩ : ∃ PA, pairL [eA es E, eB es E] (A.map (s + ·)) 2 = PA := ⟨_, rfl⟩
  obtain ⟨PB, hPB⟩ : ∃ PB, pairL [eA es F, eB es F] (B.map (s + ·)) 2 = PB := ⟨_, rfl⟩
  obtain ⟨R, hR⟩ : ∃ R, RL.length = R := ⟨_, rfl⟩
  have hDPe : DP = RL ++ PA ++ PB := by rw [← hDP, ← hRL, ← hPA, ← hPB]; rfl
  have hPA2 : PA.length = 2 := by rw [← hPA]; exact pairL_len _ _ _
  have hPB2 : PB.length = 2 := by rw [← hPB]; exact pairL_len _ _ _
  have hR60 : R ≤ 60 := by
    have h := restU_len (es ++ upE s fs) [(E : Int), (F : Int)] (es ++ upE s fs).length
    rw [List.length_append, upE_length] at h
    unfold restE at hRL
    rw [List.length_append, upE_length] at hRL
    rw [hRL] at h
    omega
  have hR1 : 0 < R := by
    have h := congrArg List.length (rest_beside s (ys := fs) (show E < es.length by omega) (show F < es.length by omega))
    rw [hRL, List.length_append, upE_length] at h
    omega
  have HDl := hid (show DP.length = R + 4 by rw [hDPe, List.length_append, List.length_append, hPA2, hPB2, hR])
  have HCat := hid (show catU [RL, PA, PB] 3 = DP by rw [hDPe]; simp [catU])
  have HDi := hid (show ∀ i, i < R + 4 → (0 ≤ eA DP i ∧ eA DP i ≤ 1000) ∧ (0 ≤ eB DP i ∧ eB DP i ≤ 1000) from fun i hi => by
    have hi' : i < DP.length := by rw [HDl.out]; exact hi
    have h := dotP_in g1 g2 (show E < es.length by omega) (show F < es.length by omega) hA2 hB2 hAi hBi (p := DP[i]) (by rw [hDP]; exact List.getElem_mem _)
    rw [eA_lt hi', eB_lt hi']
    exact h)
  have HDs := hid (show outU DP [s + a, s + b'] (R + 4) = DM by rw [← HDl.out, ← hDP, ← hDM]; exact hDs)
  have hLM1 : 1 ≤ LM := by rw [← hLM, ← hDM]; unfold dotM; rw [List.length_append]; simp
  rw [hDM, hLM]
  have HAe := hid (show endL (es ++ upE s fs) (s + x) (s + y) (arF (es ++ upE s fs) (s + a)) = A.map (s + ·) by rw [endL_beside g1 ha, hA])
  have HBe := hid (show endL (es ++ upE s fs) (s + x) (s + y) (arF (es ++ upE s fs) (s + b')) = B.map (s + ·) by rw [endL_beside g1 hb, hB])
  have HA2 := hid (show (A.map (s + ·)).length = 2 by rw [List.length_map]; exact hA2)
  have HB2' := hid (show (B.map (s + ·)).length = 2 by rw [List.length_map]; exact hB2)
  have HPs := hid (show RL.length = R ∧ PA.length = 2 ∧ PB.length = 2 from ⟨hR, hPA2, hPB2⟩)
  have HRL := hid hRL
  have HPA := hid hPA
  have HPB := hid hPB
  have HLM := hid hLM
  have HLe := hid (show (es ++ upE s fs).length = n + m by rw [List.length_append, upE_length, hn, hn2])
  have Hmn := hid (show min (s + a) (s + b') = s + x by omega)
  have Hmx := hid (show max (s + a) (s + b') = s + y by omega)
  have Hn := hid hn
  have Hn2 := hid hn2
  have Hr1 := hid hr
  have Hr2 := hid hr2
  have HEs := hid hE2
  have HEl := hid (show E < es.length ∧ F < es.length by omega)
  have HEf := hid (show ([(E : Int), (F : Int)] : List Int) = [e, f] by rw [he, hf])
  have hbl : b < w.heap.size := reads_lt hr (by omega)
  obtain ⟨N, hN⟩ : ∃ N : Nat, (N : Int) = s + t := ⟨(s + t).toNat, Int.toNat_of_nonneg (by omega)⟩
  have HN := hid hN
  have e1 : IntKind.i64.wrap (s + a) = s + a := IntWalk.i64_in _ (by omega)
  have e2 : IntKind.i64.wrap (s + b') = s + b' := IntWalk.i64_in _ (by omega)
  have hen : e < (n : Int) := by omega
  have hfn : f < (n : Int) := by omega
  have he0 : 0 ≤ e := by omega
  have hf0 : 0 ≤ f := by omega
  have het : e.toNat = E := by omega
  have hft : f.toNat = F := by omega
  have HAr := hid (show 2 ≤ s ∧ 2 ≤ t ∧ s + t ≤ 22 ∧ n ≤ 30 ∧ m ≤ 30 ∧ 3 ≤ n ∧ 3 ≤ m ∧ R ≤ 60 ∧ 0 < R ∧ 1 ≤ LM ∧ 0 ≤ a ∧ a < t ∧ 0 ≤ b' ∧ b' < t from ⟨by omega, by omega, hst, hn30, hm30, hn3, hm3, hR60, hR1, hLM1, ha.1, ha.2, hb.1, hb.2⟩)
  clear hn hr hn2 hr2 g1 g2 hE hF he hf ha hb hst hx hy hA hB hA2 hB2 hAi hBi hAo hBo hn30 hm30 k1 k2 hn3 hm3 hE2 hDs hDM hDP hLM hRL hPA hPB hR hDPe hPA2 hPB2 hR60 hR1 hLM1 hN
  go_enter Try.func39, Try.ntmps39
  go_wp2_with fail
  refine (iFollowed_any s t b off n c b2 o2 m d es fs _ Hn.out Hn2.out (by have ar := HAr.out; omega) (by have ar := HAr.out; omega) (by have ar := HAr.out; omega) (Hr1.out.on (bfrom (bfrom (on_alloc _ _) (on_alloc _ _)) (on_alloc _ _))) (Hr2.out.on (bfrom (bfrom (on_alloc _ _) (on_alloc _ _)) (on_alloc _ _))) (by have ar := HAr.out; omega) (by have ar := HAr.out; omega) HEs.out).mono ?_
  rintro e' w4 ⟨g4, cap4, rfl, hg4, ho4, hb4⟩
  have HB4 := hid (bfrom (w := w) (bfrom (bfrom (on_alloc _ _) (on_alloc _ _)) (on_alloc _ _)) hb4)
  have HG4 := hid ((((GBox.new w w.heap.size rfl : GBox _ _ s (some ⟨b, off, none⟩) n c).on (on_alloc _ _)).on (on_alloc _ _)).on hb4)
  have HK4 := hid ((GBox.new _ (w.heap.size + 1 + 1) (by simp) : GBox _ _ 0 none 0 0).on hb4)
  have HO4 := hid ho4
  clear hb4 ho4
  go_upto_region 2 with fail
  obtain ⟨W5, hW5⟩ : ∃ W5, W5 = w4.alloc (.cells #[.int .i64 (s + t), .slice (some ⟨g4, 0, none⟩) (n + m) cap4] 28) := ⟨_, rfl⟩
  obtain ⟨C, hC⟩ : ∃ C, C = w4.heap.size := ⟨_, rfl⟩
  have HM5 := hid (show GBox W5 C (s + t) (some ⟨g4, 0, none⟩) (n + m) cap4 by rw [hW5]; exact GBox.new w4 C hC)
  have HO5 := hid (show OwnE W5 g4 cap4 (es ++ upE s fs) by rw [hW5]; exact HO4.out.alloc _)
  have HB5 := hid (show Below w.heap.size w W5 by rw [hW5]; exact bfrom HB4.out (on_alloc _ _))
  have HG5 := hid (show GBox W5 w.heap.size s (some ⟨b, off, none⟩) n c by rw [hW5]; exact HG4.out.on (on_alloc _ _))
  have HK5 := hid (show GBox W5 (w.heap.size + 1 + 1) 0 none 0 0 by rw [hW5]; exact HK4.out.on (on_alloc _ _))
  have hCk : w.heap.size + 1 + 1 < C := by rw [hC]; exact HK4.out.lt
  rw [← hW5, ← hC]
  clear hW5 hC HO4 HB4 HG4 HK4
  have hx5 := HG5.out.box.1
  have hl5 := HG5.out.lt
  go_quiet (fail)
  obtain ⟨W6, hW6⟩ : ∃ W6, W6 = W5.drewN nq := ⟨_, rfl⟩
  have HB56 := hid (show Below W5.heap.size W5 W6 by rw [hW6]; exact bdn.mpr (Below.refl _ _))
  rw [← hW6]
  clear hW6 hx5 hl5
  have HM6 := hid (HM5.out.on HB56.out)
  have HO6 := hid (HO5.out.on HB56.out)
  have HB6 := hid (bfrom HB5.out HB56.out)
  have HG6 := hid (HG5.out.on HB56.out)
  have HK6 := hid (HK5.out.on HB56.out)
  clear HM5 HO5 HB5 HG5 HK5 HB56
  go_upto_region 3 with fail
  have hSD : GBox W6.drew C (s + t) (some ⟨g4, 0, none⟩) (n + m) cap4 ∧ GBox W6.drew w.heap.size s (some ⟨b, off, none⟩) n c := ⟨HM6.out, HG6.out⟩
  refine wp_region_held_drew (S := fun w' => GBox w' C (s + t) (some ⟨g4, 0, none⟩) (n + m) cap4 ∧ GBox w' w.heap.size s (some ⟨b, off, none⟩) n c) (by kernel_rfl) hSD (fun hHeld => ?_)
  refine wpAnyH_take (i := 0) (v := .agg #[.int .i64 (s + t), .slice (some ⟨g4, 0, none⟩) (n + m) cap4]) rfl (by kernel_rfl) (by kernel_rfl) (by kernel_rfl) (fun _ _ _ h => h) (Or.inl ⟨by rfl, fun w hSw => ?_⟩) (by assumption) ?_
  · have h0 := hSw.1.box.1
    have h1 := hSw.1.box.2
    go_simp
  simp only [Act.put, List.getElem_toArray, List.getElem_cons_zero, List.setIfInBounds_toArray, List.set_cons_zero, List.set_cons_succ]
  refine wpAnyH_take (i := 1) (v := .int .i64 e) rfl (by kernel_rfl) (by kernel_rfl) (by kernel_rfl) (fun _ _ _ h => h) (Or.inl ⟨by rfl, fun w hSw => ?_⟩) (by assumption) ?_
  · go_simp
  simp only [Act.put, List.getElem_toArray, List.getElem_cons_zero, List.getElem_cons_succ, List.setIfInBounds_toArray, List.set_cons_zero, List.set_cons_succ]
  refine wpAnyH_take (i := 2) (v := .int .i64 f) rfl (by kernel_rfl) (by kernel_rfl) (by kernel_rfl) (fun _ _ _ h => h) (Or.inl ⟨by rfl, fun w hSw => ?_⟩) (by assumption) ?_
  · go_simp
  simp only [Act.put, List.getElem_toArray, List.getElem_cons_zero, List.getElem_cons_succ, List.setIfInBounds_toArray, List.set_cons_zero, List.set_cons_succ]
  refine wpAnyH_take (i := 6) (v := .pointer (some ⟨w.heap.size, 1, none⟩)) rfl (by kernel_rfl) (by kernel_rfl) (by kernel_rfl) (fun _ _ _ h => h) (Or.inl ⟨by rfl, fun w hSw => ?_⟩) (by assumption) ?_
  · go_simp
  simp only [Act.put, List.getElem_toArray, List.getElem_cons_zero, List.getElem_cons_succ, List.setIfInBounds_toArray, List.set_cons_zero, List.set_cons_succ]
  refine wpAnyH_take (i := 7) (v := .slice (some ⟨b, off, none⟩) n c) rfl (by kernel_rfl) (by kernel_rfl) (by kernel_rfl) (fun _ _ _ h => h) (Or.inl ⟨by rfl, fun w hSw => ?_⟩) (by assumption) ?_
  · have h1 := hSw.2.box.2
    go_simp
  simp only [Act.put, List.getElem_toArray, List.getElem_cons_zero, List.getElem_cons_succ, List.setIfInBounds_toArray, List.set_cons_zero, List.set_cons_succ]
  refine wpAnyH_take (i := 8) (v := .int .i64 e) rfl (by kernel_rfl) (by kernel_rfl) (by kernel_rfl) (fun _ _ _ h => h) (Or.inl ⟨by rfl, fun w hSw => ?_⟩) (by assumption) ?_
  · go_simp
  simp only [Act.put, List.getElem_toArray, List.getElem_cons_zero, List.getElem_cons_succ, List.setIfInBounds_toArray, List.set_cons_zero, List.set_cons_succ]
  refine wpAnyH_take (i := 9) (v := .pointer (some ⟨b, off + E * 2, none⟩)) rfl (by kernel_rfl) (by kernel_rfl) (by kernel_rfl) (fun _ _ _ h => h) (Or.inl ⟨by rfl, fun w hSw => ?_⟩) (by assumption) ?_
  · go_simp
  simp only [Act.put, List.getElem_toArray, List.getElem_cons_zero, List.getElem_cons_succ, List.setIfInBounds_toArray, List.set_cons_zero, List.set_cons_succ]
  refine wpAnyH_take (i := 10) (v := .slice (some ⟨b, off + E * 2, none⟩) 2 2) rfl (by kernel_rfl) (by kernel_rfl) (by kernel_rfl) (fun _ _ _ h => h) (Or.inl ⟨by rfl, fun w hSw => ?_⟩) (by assumption) ?_
  · go_simp
  simp only [Act.put, List.getElem_toArray, List.getElem_cons_zero, List.getElem_cons_succ, List.setIfInBounds_toArray, List.set_cons_zero, List.set_cons_succ]
  refine wpAnyH_take (i := 11) (v := .agg #[.int .i64 (s + t), .slice (some ⟨g4, 0, none⟩) (n + m) cap4]) rfl (by kernel_rfl) (by kernel_rfl) (by kernel_rfl) (fun _ _ _ h => h) (Or.inl ⟨by rfl, fun w hSw => ?_⟩) (by assumption) ?_
  · have h0 := hSw.1.box.1
    have h1 := hSw.1.box.2
    go_simp
  simp only [Act.put, List.getElem_toArray, List.getElem_cons_zero, List.getElem_cons_succ, List.setIfInBounds_toArray, List.set_cons_zero, List.set_cons_succ]
  refine wpAnyH_take (i := 12) (v := .int .i64 (s + a)) rfl (by kernel_rfl) (by kernel_rfl) (by kernel_rfl) (fun _ _ _ h => h) (Or.inl ⟨by rfl, fun w hSw => ?_⟩) (by assumption) ?_
  · go_simp
  simp only [Act.put, List.getElem_toArray, List.getElem_cons_zero, List.getElem_cons_succ, List.setIfInBounds_toArray, List.set_cons_zero, List.set_cons_succ]
  refine wpAnyH_take (i := 13) (v := .int .i64 (s + a)) rfl (by kernel_rfl) (by kernel_rfl) (by kernel_rfl) (fun _ _ _ h => h) (Or.inl ⟨by rfl, fun w hSw => ?_⟩) (by assumption) ?_
  · go_simp
  simp only [Act.put, List.getElem_toArray, List.getElem_cons_zero, List.getElem_cons_succ, List.setIfInBounds_toArray, List.set_cons_zero, List.set_cons_succ]
  refine wpAnyH_take (i := 14) (v := .int .i64 (s + b')) rfl (by kernel_rfl) (by kernel_rfl) (by kernel_rfl) (fun _ _ _ h => h) (Or.inl ⟨by rfl, fun w hSw => ?_⟩) (by assumption) ?_
  · go_simp
  simp only [Act.put, List.getElem_toArray, List.getElem_cons_zero, List.getElem_cons_succ, List.setIfInBounds_toArray, List.set_cons_zero, List.set_cons_succ]
  refine wpAnyH_take (i := 18) (v := .pointer (some ⟨w.heap.size, 1, none⟩)) rfl (by kernel_rfl) (by kernel_rfl) (by kernel_rfl) (fun _ _ _ h => h) (Or.inl ⟨by rfl, fun w hSw => ?_⟩) (by assumption) ?_
  · go_simp
  simp only [Act.put, List.getElem_toArray, List.getElem_cons_zero, List.getElem_cons_succ, List.setIfInBounds_toArray, List.set_cons_zero, List.set_cons_succ]
  refine wpAnyH_take (i := 19) (v := .slice (some ⟨b, off, none⟩) n c) rfl (by kernel_rfl) (by kernel_rfl) (by kernel_rfl) (fun _ _ _ h => h) (Or.inl ⟨by rfl, fun w hSw => ?_⟩) (by assumption) ?_
  · have h1 := hSw.2.box.2
    go_simp
  simp only [Act.put, List.getElem_toArray, List.getElem_cons_zero, List.getElem_cons_succ, List.setIfInBounds_toArray, List.set_cons_zero, List.set_cons_succ]
  refine wpAnyH_take (i := 20) (v := .int .i64 f) rfl (by kernel_rfl) (by kernel_rfl) (by kernel_rfl) (fun _ _ _ h => h) (Or.inl ⟨by rfl, fun w hSw => ?_⟩) (by assumption) ?_
  · go_simp
  simp only [Act.put, List.getElem_toArray, List.getElem_cons_zero, List.getElem_cons_succ, List.setIfInBounds_toArray, List.set_cons_zero, List.set_cons_succ]
  refine wpAnyH_take (i := 21) (v := .pointer (some ⟨b, off + F * 2, none⟩)) rfl (by kernel_rfl) (by kernel_rfl) (by kernel_rfl) (fun _ _ _ h => h) (Or.inl ⟨by rfl, fun w hSw => ?_⟩) (by assumption) ?_
  · go_simp
  simp only [Act.put, List.getElem_toArray, List.getElem_cons_zero, List.getElem_cons_succ, List.setIfInBounds_toArray, List.set_cons_zero, List.set_cons_succ]
  refine wpAnyH_take (i := 22) (v := .slice (some ⟨b, off + F * 2, none⟩) 2 2) rfl (by kernel_rfl) (by kernel_rfl) (by kernel_rfl) (fun _ _ _ h => h) (Or.inl ⟨by rfl, fun w hSw => ?_⟩) (by assumption) ?_
  · go_simp
  simp only [Act.put, List.getElem_toArray, List.getElem_cons_zero, List.getElem_cons_succ, List.setIfInBounds_toArray, List.set_cons_zero, List.set_cons_succ]
  refine wpAnyH_take (i := 23) (v := .agg #[.int .i64 (s + t), .slice (some ⟨g4, 0, none⟩) (n + m) cap4]) rfl (by kernel_rfl) (by kernel_rfl) (by kernel_rfl) (fun _ _ _ h => h) (Or.inl ⟨by rfl, fun w hSw => ?_⟩) (by assumption) ?_
  · have h0 := hSw.1.box.1
    have h1 := hSw.1.box.2
    go_simp
  simp only [Act.put, List.getElem_toArray, List.getElem_cons_zero, List.getElem_cons_succ, List.setIfInBounds_toArray, List.set_cons_zero, List.set_cons_succ]
  refine wpAnyH_take (i := 24) (v := .int .i64 (s + b')) rfl (by kernel_rfl) (by kernel_rfl) (by kernel_rfl) (fun _ _ _ h => h) (Or.inl ⟨by rfl, fun w hSw => ?_⟩) (by assumption) ?_
  · go_simp
  simp only [Act.put, List.getElem_toArray, List.getElem_cons_zero, List.getElem_cons_succ, List.setIfInBounds_toArray, List.set_cons_zero, List.set_cons_succ]
  refine wpAnyH_take (i := 25) (v := .int .i64 (s + a)) rfl (by kernel_rfl) (by kernel_rfl) (by kernel_rfl) (fun _ _ _ h => h) (Or.inl ⟨by rfl, fun w hSw => ?_⟩) (by assumption) ?_
  · go_simp
  simp only [Act.put, List.getElem_toArray, List.getElem_cons_zero, List.getElem_cons_succ, List.setIfInBounds_toArray, List.set_cons_zero, List.set_cons_succ]
  refine wpAnyH_take (i := 26) (v := .int .i64 (s + b')) rfl (by kernel_rfl) (by kernel_rfl) (by kernel_rfl) (fun _ _ _ h => h) (Or.inl ⟨by rfl, fun w hSw => ?_⟩) (by assumption) ?_
  · go_simp
  simp only [Act.put, List.getElem_toArray, List.getElem_cons_zero, List.getElem_cons_succ, List.setIfInBounds_toArray, List.set_cons_zero, List.set_cons_succ]
  refine wpAnyH_ready (rs := [3]) (by kernel_rfl) (by simp) ?_
  refine AllReadyH.cons rfl (fun K hK => ?_) AllReadyH.nil
  go_simp
  have HB7 := hid (show Below W6.heap.size W6 (W6.drew.alloc (.cells #[.int .i64 e, .int .i64 f] 2)) from bfrom (Below.refl W6.heap.size W6).drew (on_alloc W6.drew _))
  have HR7 := hid (show ReadsI (W6.drew.alloc (.cells #[.int .i64 e, .int .i64 f] 2)) W6.heap.size 0 [e, f] from reads_twoD W6.drew e f _ _ rfl)
  refine hK.out _ _ ?_ (fun _ => ?_)
  · exact ⟨HM6.out.on HB7.out, HG6.out.on HB7.out⟩
  clear hK K
  refine wpAnyH_ready (rs := [4]) (by kernel_rfl) (by simp) ?_
  refine AllReadyH.cons rfl (fun K hK => ?_) AllReadyH.nil
  have h := iLeftD_any N g4 0 (n + m) cap4 2 2 (some ⟨W6.heap.size, 0, none⟩) (es ++ upE s fs) [(E : Int), (F : Int)] (W6.drew.alloc (.cells #[.int .i64 e, .int .i64 f] 2)) HLe.out (by have ar := HAr.out; omega) (HO6.out.on HB7.out).reads rfl (by omega) (.inr ⟨W6.heap.size, 0, rfl, by rw [HEf.out]; exact HR7.out⟩)
  rw [HN.out, HRL.out, HPs.out.1] at h
  have H8 := hid h
  clear h
  go_simp
  refine H8.out.mono ?_
  rintro e' w8 ⟨gL, capL, rfl, hgL, hoL, hb8⟩
  clear H8
  have HB8 := hid (bfrom HB7.out hb8)
  have HOL := hid hoL
  have HC8 := hid (Below.refl w8.heap.size w8)
  clear hgL hoL hb8
  refine hK.out _ _ ?_ (fun _ => ?_)
  · exact ⟨HM6.out.on HB8.out, HG6.out.on HB8.out⟩
  clear hK K
  refine wpAnyH_take (i := 5) (v := .slice (some ⟨gL, 0, none⟩) R capL) rfl (by kernel_rfl) (by kernel_rfl) (by kernel_rfl) (fun _ _ _ h => h) (Or.inl ⟨by rfl, fun w hSw => ?_⟩) (by assumption) ?_
  · first | kernel_rfl | (simp [go_sem]; done) | go_simp
  simp only [Act.put, List.getElem_toArray, List.getElem_cons_zero, List.getElem_cons_succ, List.setIfInBounds_toArray, List.set_cons_zero, List.set_cons_succ]
  refine wpAnyH_ready (rs := [15]) (by kernel_rfl) (by simp) ?_
  refine AllReadyH.cons rfl (fun K hK => ?_) AllReadyH.nil
  have H9 := hid (iJoin2_any (s + a) (s + b') w8)
  go_simp
  refine H9.out.mono ?_
  rw [Hmn.out, Hmx.out]
  rintro e' w9 ⟨rfl, hb9⟩
  clear H9
  have HB9 := hid (bfrom HB8.out hb9)
  have HC9 := hid (bfrom HC8.out hb9)

  clear hb9
  refine hK.out _ _ ?_ (fun _ => ?_)
  · exact ⟨HM6.out.on HB9.out, HG6.out.on HB9.out⟩
  clear hK K
  refine wpAnyH_ready (rs := [16]) (by kernel_rfl) (by simp) ?_
  refine AllReadyH.cons rfl (fun K hK => ?_) AllReadyH.nil
  have H10 := hid (iEndsD_any (s + t) (s + a) (s + x) (s + y) g4 0 (n + m) cap4 (es ++ upE s fs) (A.map (s + ·)) w9 (by have ar := HAr.out; omega) HLe.out (HO6.out.on HB9.out).reads (HO6.out.on HB9.out).lt HAe.out HA2.out)
  go_simp
  refine H10.out.mono ?_
  rintro e' w10 ⟨gA0, cA0, rfl, hgA0, hoA0, hb10⟩
  clear H10
  have HB10 := hid (bfrom HB9.out hb10)
  have HOA0 := hid hoA0
  have HC10 := hid (bfrom HC9.out hb10)

  clear hgA0 hoA0 hb10
  refine hK.out _ _ ?_ (fun _ => ?_)
  · exact ⟨HM6.out.on HB10.out, HG6.out.on HB10.out⟩
  clear hK K
  refine wpAnyH_ready (rs := [17]) (by kernel_rfl) (by simp) ?_
  refine AllReadyH.cons rfl (fun K hK => ?_) AllReadyH.nil
  have h := iPaired_any b (off + E * 2) 2 2 gA0 0 2 cA0 [eA es E, eB es E] (A.map (s + ·)) w10 rfl (by omega) (ends_reads ((Hr1.out.on HB6.out).on HB10.out) HEl.out.1) HA2.out (by omega) (by omega) HOA0.out.reads
  rw [HPA.out] at h
  have H11 := hid h
  clear h
  go_simp
  refine H11.out.mono ?_
  rintro e' w11 ⟨gP0, cP0, rfl, hgP0, hoP0, hb11⟩
  clear H11
  have HB11 := hid (bfrom HB10.out hb11)
  have HOP0 := hid hoP0
  have HC11 := hid (bfrom HC10.out hb11)

  clear hgP0 hoP0 hb11
  refine hK.out _ _ ?_ (fun _ => ?_)
  · exact ⟨HM6.out.on HB11.out, HG6.out.on HB11.out⟩
  clear hK K
  refine wpAnyH_ready (rs := [27]) (by kernel_rfl) (by simp) ?_
  refine AllReadyH.cons rfl (fun K hK => ?_) AllReadyH.nil
  have H12 := hid (iJoin2_any (s + a) (s + b') w11)
  go_simp
  refine H12.out.mono ?_
  rw [Hmn.out, Hmx.out]
  rintro e' w12 ⟨rfl, hb12⟩
  clear H12
  have HB12 := hid (bfrom HB11.out hb12)
  have HC12 := hid (bfrom HC11.out hb12)
  have HD12 := hid hb12
  clear hb12
  refine hK.out _ _ ?_ (fun _ => ?_)
  · exact ⟨HM6.out.on HB12.out, HG6.out.on HB12.out⟩
  clear hK K
  refine wpAnyH_ready (rs := [28]) (by kernel_rfl) (by simp) ?_
  refine AllReadyH.cons rfl (fun K hK => ?_) AllReadyH.nil
  have H13 := hid (iEndsD_any (s + t) (s + b') (s + x) (s + y) g4 0 (n + m) cap4 (es ++ upE s fs) (B.map (s + ·)) w12 (by have ar := HAr.out; omega) HLe.out (HO6.out.on HB12.out).reads (HO6.out.on HB12.out).lt HBe.out HB2'.out)
  go_simp
  refine H13.out.mono ?_
  rintro e' w13 ⟨gB0, cB0, rfl, hgB0, hoB0, hb13⟩
  clear H13
  have HB13 := hid (bfrom HB12.out hb13)
  have HOB0 := hid hoB0
  have HC13 := hid (bfrom HC12.out hb13)
  have HD13 := hid (bfrom HD12.out hb13)
  clear hgB0 hoB0 hb13
  refine hK.out _ _ ?_ (fun _ => ?_)
  · exact ⟨HM6.out.on HB13.out, HG6.out.on HB13.out⟩
  clear hK K
  refine wpAnyH_ready (rs := [29]) (by kernel_rfl) (by simp) ?_
  refine AllReadyH.cons rfl (fun K hK => ?_) AllReadyH.nil
  have h := iPaired_any b (off + F * 2) 2 2 gB0 0 2 cB0 [eA es F, eB es F] (B.map (s + ·)) w13 rfl (by omega) (ends_reads ((Hr1.out.on HB6.out).on HB13.out) HEl.out.2) HB2'.out (by omega) (by omega) HOB0.out.reads
  rw [HPB.out] at h
  have H14 := hid h
  clear h
  go_simp
  refine H14.out.mono ?_
  rintro e' w14 ⟨gP1, cP1, rfl, hgP1, hoP1, hb14⟩
  clear H14
  have HB14 := hid (bfrom HB13.out hb14)
  have HOP1 := hid hoP1
  have HC14 := hid (bfrom HC13.out hb14)
  have HD14 := hid (bfrom HD13.out hb14)
  clear hgP1 hoP1 hb14
  refine hK.out _ _ ?_ (fun _ => ?_)
  · exact ⟨HM6.out.on HB14.out, HG6.out.on HB14.out⟩
  clear hK K
  have HOL14 := hid (HOL.out.on HC14.out)
  have HOP14 := hid (HOP0.out.on HD14.out)
  refine wpAnyH_ready (rs := [30]) (by kernel_rfl) (by simp) ?_
  refine AllReadyH.cons rfl (fun K hK => ?_) AllReadyH.nil
  go_simp
  have HB15 := hid (show Below W6.heap.size W6 (w14.alloc (.cells #[.slice (some ⟨gL, 0, none⟩) R capL, .slice (some ⟨gP0, 0, none⟩) 2 cP0, .slice (some ⟨gP1, 0, none⟩) 2 cP1] 26)) from bfrom HB14.out (on_alloc w14 _))
  refine hK.out _ _ ?_ (fun _ => ?_)
  · exact ⟨HM6.out.on HB15.out, HG6.out.on HB15.out⟩
  clear hK K
  refine wpAnyH_ready (rs := [31]) (by kernel_rfl) (by simp) ?_
  refine AllReadyH.cons rfl (fun K hK => ?_) AllReadyH.nil
  have h := iConcatE_any w14.heap.size 3 3 (R + 4) [RL, PA, PB] (w14.alloc (.cells #[.slice (some ⟨gL, 0, none⟩) R capL, .slice (some ⟨gP0, 0, none⟩) 2 cP0, .slice (some ⟨gP1, 0, none⟩) 2 cP1] 26)) rfl (by omega) (by rw [HCat.out]; exact HDl.out) (by omega) (by have ar := HAr.out; omega) (holds_three (heap_alloc_newC w14 _ _ rfl) (HOL14.out.alloc _) (HOP14.out.alloc _) (HOP1.out.alloc _) HPs.out.1 HPs.out.2.1 HPs.out.2.2 (by have ar := HAr.out; omega))
  rw [HCat.out] at h
  have H16 := hid h
  clear h
  go_simp
  refine H16.out.mono ?_
  rintro e' w16 ⟨gc, cc, rfl, hgc, hoc, hb16⟩
  clear H16
  have HB16 := hid (bfrom HB15.out hb16)
  have HOc := hid hoc
  clear hgc hoc hb16
  refine hK.out _ _ ?_ (fun _ => ?_)
  · exact ⟨HM6.out.on HB16.out, HG6.out.on HB16.out⟩
  clear hK K
  refine wpAnyH_ready (rs := [32]) (by kernel_rfl) (by simp) ?_
  refine AllReadyH.cons rfl (fun K hK => ?_) AllReadyH.nil
  go_simp
  refine hK.out _ _ ?_ (fun _ => ?_)
  · exact ⟨HM6.out.on HB16.out, HG6.out.on HB16.out⟩
  clear hK K
  refine wpAnyH_done (by kernel_rfl) ?_ _
  have HM16 := hid (HM6.out.on HB16.out)
  have HK16 := hid (HK6.out.on HB16.out)
  have HBw := hid (bfrom HB6.out HB16.out)
  clear HB7 HR7 HB8 HB9 HB10 HB11 HB12 HB13 HB14 HB15 HC8 HC9 HC10 HC11 HC12 HC13 HC14 HD12 HD13 HD14 HOL14 HOP14
  have hxc := HM16.out.box.1
  have hyc := HM16.out.box.2
  have hlc := HM16.out.lt
  have hgl := HOc.out.lt
  go_wp2_with fail
  refine (iWithout_any (s + t) gc 0 (R + 4) cc w16.heap.size 0 2 2 LM DP [s + a, s + b'] _ HDl.out (by have ar := HAr.out; omega) ((HOc.out.alloc _).reads) (by simp; omega) rfl (by omega) (reads_twoD _ _ _ _ _ rfl) (by have ar := HAr.out; omega) HDi.out (by rw [HDs.out]; exact HLM.out) (by have ar := HAr.out; omega)).mono ?_
  rw [HDs.out]
  rintro e' w17 ⟨gd, rfl, hgd, hod, hbD⟩
  have HB17 := hid (bfrom (bfrom HBw.out (on_alloc _ _)) hbD)
  have HK17 := hid ((HK16.out.on (on_alloc _ _)).on hbD)
  have hzw := HBw.out.size
  have HOd := hid hod
  simp only [World.size_alloc] at hgd
  clear hod hbD hxc hyc hlc
  have hkx := HK17.out.box.1
  have hky := HK17.out.box.2
  have hfx := HK17.out.frozen 0
  have hfy := HK17.out.frozen 1
  have hlk := HK17.out.lt
  have hlw := HK16.out.lt
  go_wp2
  refine bodyPost_ret (v := .agg #[.int .i64 (s + t - 2), .slice (some ⟨gd, 0, none⟩) LM LM]) (by simp [results, Try.results39, go_sem, hkx, hky]) rfl ⟨gd, rfl, by omega, ?_, ?_⟩
  · have hne : gd ≠ w.heap.size + 1 + 1 := by omega
    exact (HOd.out.far hne _).far hne _
  · have h := HB17.out
    go_grown

end Go.Proofs.Ytfdlhdgmbjdhbaa
