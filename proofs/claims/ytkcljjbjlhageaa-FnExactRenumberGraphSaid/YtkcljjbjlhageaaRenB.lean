/- Renumbered graphs in the model. -/
import Derived.Test.YtkcljjbjlhageaaRenA
import Derived.Test.YtkcljjbjlhageaaSpecF
import Derived.Test.YtkcljjbjlhageaaClone
import Derived.Deep.RegionHeld3
namespace Go.Proofs.Ytkcljjbjlhageaa
open Go.RowKit Go.Lib

theorem row_made2 (w : World) (o1 o2 : Obj) : (((w.alloc o1).alloc o2).alloc (.cells #[] 74)).ownsRow (w.heap.size + 1 + 1) 74 2 (.slice (some ⟨w.heap.size + 1 + 1, 0, none⟩) 0 0) 0 [] := by
  have h := World.ownsRow_made (base := w.heap.size + 1 + 1) (e := 74) (size := 2) ((w.alloc o1).alloc o2) #[] 0 (by simp only [World.size_alloc]; omega) (Nat.zero_le _) rfl
  simpa only [World.size_alloc] using h

theorem new_free (w : World) (c : Array Value) (t : TypeId) (o : Nat) (b : Nat) (hb : b = w.heap.size) : (w.alloc (.cells c t)).frozen? ⟨b, o, none⟩ = false := by subst hb; simp

set_option maxRecDepth 100000 in
set_option maxHeartbeats 4000000 in
theorem sRenamed_any (s : Int) (b off n c pb po m d : Nat) (es : List (Int × Int)) (ps : List Int) (w : World) (hn : es.length = n) (hn30 : n ≤ 30) (hr : ReadsE w b off es) (hG : IsG s es) (hm : ps.length = m) (hrp : ReadsI w pb po ps) (hms : (m : Int) = s) :
    Calls Try.prog 67 #[.agg #[.int .i64 s, .slice (some ⟨b, off, none⟩) n c], .slice (some ⟨pb, po, none⟩) m d] w fun e w' => ∃ q cap, e = .returned (.agg #[.int .i64 s, .slice q n cap]) ∧ FreshE w.heap.size w' q n cap (sortE (renE ps es)) ∧ Below w.heap.size w w' := by
  have Hn := hid hn
  have Hr := hid hr
  have HG := hid hG
  have Hm := hid hm
  have Hrp := hid hrp
  have Hms := hid hms
  have hsz : 2 ≤ m ∧ m ≤ 20 := by have := hG.1.1.1; have := hG.1.1.2.1; omega
  obtain ⟨hm2, hm20⟩ := hsz
  obtain ⟨i0, hi, hz0, hz1, hz2⟩ := info_parts infoEdge
  have Hi := hid hi
  clear hn hr hG hm hrp hms hi
  go_enter Try.func67, Try.ntmps67
  go_wp2
  have HX0 : Hid (Box (((w.alloc (.cells #[.int .i64 s, .slice (some ⟨b, off, none⟩) n c] 31)).alloc (.cells #[.int .i64 0, .slice none 0 0] 31)).alloc (.cells #[] 74)) w.heap.size s (some ⟨b, off, none⟩) n c) := hid (((Box.new w s (some ⟨b, off, none⟩) n c 31).on (on_alloc _ _)).on (on_alloc _ _))
  have HK0 : Hid (Box (((w.alloc (.cells #[.int .i64 s, .slice (some ⟨b, off, none⟩) n c] 31)).alloc (.cells #[.int .i64 0, .slice none 0 0] 31)).alloc (.cells #[] 74)) (w.heap.size + 1) 0 none 0 0) := hid (by
    have h := (Box.new (w.alloc (.cells #[.int .i64 s, .slice (some ⟨b, off, none⟩) n c] 31)) 0 none 0 0 31).on (on_alloc _ (.cells #[] 74))
    simp only [World.size_alloc] at h
    exact h)
  go_loopw [5, 6] (fun v i wr => ∃ (k cap : Nat) (q : Option Addr), k ≤ n ∧ v = .slice q k cap ∧ i = .int .i64 k ∧ Hid (wr.ownsRow (w.heap.size + 1 + 1) 74 2 (.slice q k cap) k (edgeVals (renE ps (es.take k)))) ∧ Hid (Below w.heap.size w wr) ∧ Hid (Box wr w.heap.size s (some ⟨b, off, none⟩) n c ∧ Box wr (w.heap.size + 1) 0 none 0 0) ∧ wr.frozen? ⟨w.heap.size + 1, 0, none⟩ = false ∧ wr.frozen? ⟨w.heap.size + 1, 1, none⟩ = false ∧ w.heap.size + 1 + 1 < wr.heap.size) (fun _ i _ => n - (intOf i).toNat)
  case atStart => exact ⟨0, 0, _, Nat.zero_le _, rfl, rfl, hid (by simpa [renE, edgeVals] using row_made2 _ _ _), hid (bfrom (bfrom (on_alloc _ _) (on_alloc _ _)) (on_alloc _ _)), hid ⟨HX0.out, HK0.out⟩, ((bcells (on_alloc _ _)).2 _ _ (by simp)).trans (new_free _ _ _ _ _ (by simp)), ((bcells (on_alloc _ _)).2 _ _ (by simp)).trans (new_free _ _ _ _ _ (by simp)), by simp⟩
  case round =>
    obtain ⟨k, cap, q, hk, rfl, rfl, hO, hB, hX, hfa, hfb, hzr⟩ := hrel
    clear HX0 HK0
    have hx := hX.out.1.1
    have hy := hX.out.1.2
    by_cases hlt : k < n
    · have hbb : b < w.heap.size := reads_lt Hr.out (by have := Hn.out; omega)
      have hpb : pb < w.heap.size := Hrp.out.lt (by have := Hm.out; omega)
      have hc1 := (Hr.out.on hB.out k (by have := Hn.out; omega)).1
      have hc2 := (Hr.out.on hB.out k (by have := Hn.out; omega)).2
      have hok := HG.out.1.2 k (by have := Hn.out; omega)
      obtain ⟨X, hX1⟩ : ∃ X : Nat, eA es k = X := ⟨_, (Int.toNat_of_nonneg hok.1).symm⟩
      obtain ⟨Y, hY1⟩ : ∃ Y : Nat, eB es k = Y := ⟨_, (Int.toNat_of_nonneg hok.2.2.1).symm⟩
      have hXm : X < m := by have := hok.2.1; have := Hms.out; omega
      have hYm : Y < m := by have := hok.2.2.2.1; have := Hms.out; omega
      rw [hX1] at hc1
      rw [hY1] at hc2
      have hp1 := Hrp.out.on hB.out X (by have := Hm.out; omega)
      have hp2 := Hrp.out.on hB.out Y (by have := Hm.out; omega)
      have hXm' : (X : Int) < (m : Int) := by omega
      have hYm' : (Y : Int) < (m : Int) := by omega
      obtain ⟨wo, rfl⟩ : ∃ wo : World, wo = wr := ⟨_, rfl⟩
      have HX1 := hid hX1
      have HY1 := hid hY1
      have hag : ∀ x, x < w.heap.size + 1 + 1 → (Value.slice q k cap).ownBlock ≠ some x := fun x hx h => by have := (hO.out.lt _ h).1; omega
      have ah := hag w.heap.size (by omega)
      have ab := hag b (by omega)
      have ap := hag pb (by omega)
      have lb : b < wo.heap.size := by omega
      have lp : pb < wo.heap.size := by omega
      clear hag hok hX1 hY1
      go_wp2
      go_region_held3 (fun w' => w'.cell? ⟨w.heap.size, 1, none⟩ = some (.slice (some ⟨b, off, none⟩) n c) ∧ w'.cell? ⟨b, off + k * 2, none⟩ = some (.int .i64 X) ∧ w'.cell? ⟨b, off + k * 2 + 1, none⟩ = some (.int .i64 Y) ∧ w'.cell? ⟨pb, po + X, none⟩ = some (.int .i64 (eI ps X)) ∧ w'.cell? ⟨pb, po + Y, none⟩ = some (.int .i64 (eI ps Y)))
        (first
          | go_keep
          | (go_split_ands
             refine ⟨?_, ?_, ?_, ?_, ?_⟩
             · (rw [hgrow.cell_far _ (by simp; omega) (Ne.symm ah)]; assumption)
             · (rw [hgrow.cell_far _ (by simp; omega) (Ne.symm ab)]; assumption)
             · (rw [hgrow.cell_far _ (by simp; omega) (Ne.symm ab)]; assumption)
             · (rw [hgrow.cell_far _ (by simp; omega) (Ne.symm ap)]; assumption)
             · (rw [hgrow.cell_far _ (by simp; omega) (Ne.symm ap)]; assumption)))
        ((refine step_append_lies _ (by rfl) _ _ _ (by rfl) (w.heap.size + 1 + 1) 74 i0 _ 2 16 Try.underlying29 Hi.out hz0 hz1 hz2 rfl (by omega) (.slice q k cap) k _ (by rfl) ((hO.out.alloc _).drew)
            ⟨wo.heap.size, 0, none⟩ 1 1 [.int .i64 (eI ps X), .int .i64 (eI ps Y)] (by rfl) (by rfl) (World.news_of_block (cs := #[.int .i64 (eI ps X), .int .i64 (eI ps Y)]) (t := 74) (fr := (0, 0)) (heap_alloc_new wo _)) (by simp [Value.oneCell'])
            (by omega) (by unfold maxLen; omega) (by omega) (by simp; omega) (wo.heap.size + 1) (by simp) ?_; intro gg cap' w1 hown1 hgrow hat hlt'))
      have hrow : ∀ j, (Value.slice q k cap).ownBlock = some j → w.heap.size + 1 + 1 ≤ j ∧ j < wo.heap.size := hO.out.lt
      go_wp2
      go_roundw
      case rel =>
        refine ⟨k + 1, cap', some ⟨gg, 0, none⟩, by omega, rfl, by go_num, hid ?_, hid ?_, hid ⟨?_, ?_⟩, ?_, ?_, ?_⟩
        · rw [renE_step (by have := Hn.out; omega) HX1.out HY1.out, edgeVals_append]; exact hown1
        · exact (((hB.out.alloc hB.out.size _).drew).grown hgrow (by simp; omega) (fun j hj => by have := (hrow j hj).1; omega))
        · exact ((hX.out.1.on (on_alloc _ _)).drew).kept hgrow (fun h => by have := (hrow _ h.symm).1; omega)
        · exact ((hX.out.2.on (on_alloc _ _)).drew).kept hgrow (fun h => by have := (hrow _ h.symm).1; omega)
        · exact (hgrow.frozen_far ⟨w.heap.size + 1, 0, none⟩ (by simp; omega) (fun h => by have h' := (hrow _ h.symm).1; simp at h'; omega)).trans (((bcells (on_alloc wo _)).2 _ _ (by omega)).trans hfa)
        · exact (hgrow.frozen_far ⟨w.heap.size + 1, 1, none⟩ (by simp; omega) (fun h => by have h' := (hrow _ h.symm).1; simp at h'; omega)).trans (((bcells (on_alloc wo _)).2 _ _ (by omega)).trans hfb)
        · have := hgrow.size; simp at this; omega
      case measure => simp [intOf]; omega
    · obtain rfl : k = n := by omega
      have hF : FreshE (w.heap.size + 1 + 1) wr q k cap (renE ps es) := ⟨by have h := hO.out; rw [List.take_of_length_le (by have := Hn.out; omega)] at h; exact h, by rw [renE_length, Hn.out]⟩
      obtain ⟨gq, rfl, hgq, hoq⟩ : ∃ g, q = some ⟨g, 0, none⟩ ∧ w.heap.size + 1 + 1 ≤ g ∧ OwnE wr g cap (renE ps es) := by
        rcases hF.form with ⟨_, h0, _, _⟩ | h
        · have := HG.out.1.1.2.2.2; have := HG.out.1.1.1; have := Hn.out; omega
        · exact h
      have HQ := hid hoq.reads
      have hza : w.heap.size < wr.heap.size := by omega
      clear hF hoq
      go_wp2_with fail
      refine (sMade_any _ _ _ _ _ (renE ps es) _ (by omega) (by rw [renE_length, Hn.out]) HQ.out).mono ?_
      rintro e w6 ⟨q6, cap6, rfl, hf6, hb6⟩
      have HF6 := hid hf6
      have hra := ((bcells hb6).1 _ _ (by omega)).trans hX.out.2.1
      have hrb := ((bcells hb6).1 _ _ (by omega)).trans hX.out.2.2
      have hfa6 := ((bcells hb6).2 _ _ (by omega)).trans hfa
      have hfb6 := ((bcells hb6).2 _ _ (by omega)).trans hfb
      have hz6 : w.heap.size + 1 < w6.heap.size := by have := hb6.size; omega
      clear hf6
      go_wp2
      refine bodyPost_ret (v := .agg #[.int .i64 s, .slice q6 k cap6]) (by simp [results, Try.results67, go_sem, hra, hrb]) rfl ⟨q6, cap6, rfl, ?_, ?_⟩
      · exact ((HF6.out.far (by show w.heap.size + 1 < _; omega) _).far (by show w.heap.size + 1 < _; omega) _).less (by omega)
      · exact ((bfrom hB.out hb6).setCell (p := ⟨w.heap.size + 1, 0, none⟩) (by show w.heap.size ≤ w.heap.size + 1; omega) _).setCell (p := ⟨w.heap.size + 1, 1, none⟩) (by show w.heap.size ≤ w.heap.size + 1; omega) _

end Go.Proofs.Ytkcljjbjlhageaa
