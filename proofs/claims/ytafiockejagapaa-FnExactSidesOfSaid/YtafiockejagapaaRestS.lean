/- What is left of edges, in the model; whether edges are an edge cut. -/
import Derived.Test.YtafiockejagapaaRestA
import Derived.Test.YtafiockejagapaaLeaveS
import Derived.Test.YtafiockejagapaaPartsS
namespace Go.Proofs.Ytafiockejagapaa
open Go.RowKit

theorem edgeVals_one (X Y : Int) : edgeVals [(X, Y)] = [Value.int .i64 X, Value.int .i64 Y] := rfl

set_option maxRecDepth 100000 in
set_option maxHeartbeats 8000000 in
theorem sRest_any (s : Int) (b off n c k f : Nat) (ps : Option Addr) (es : List (Int × Int)) (xs : List Int) (w : World) (hn : es.length = n) (hn30 : n ≤ 30) (hr : ReadsE w b off es) (hx : xs.length = k) (hk9 : k ≤ 1048576) (hrx : SeesI w ps xs) (gs : isSetP n xs) :
    Calls Try.prog 76 #[.agg #[.int .i64 s, .slice (some ⟨b, off, none⟩) n c], .slice ps k f] w fun e' w' => ∃ q cap, e' = .returned (.slice q (restE es xs).length cap) ∧ FreshE w.heap.size w' q (restE es xs).length cap (restE es xs) ∧ Below w.heap.size w w' := by
  have Hn := hid hn
  have Hr := hid hr
  have Hx := hid hx
  have Hrx := hid hrx
  have GS := hid gs
  have hk99 : k ≤ 9223372036854775807 := by omega
  obtain ⟨i0, hi, hz0, hz1, hz2⟩ := info_parts infoEdge
  have Hi := hid hi
  clear hn hr hx hrx gs hi
  go_enter Try.func76, Try.ntmps76
  go_wp2
  have hQ0 : ((w.alloc (.cells #[.int .i64 s, .slice (some ⟨b, off, none⟩) n c] 30)).alloc (.cells #[] 61)).ownsRow (w.heap.size + 1) 61 2 (.slice (some ⟨w.heap.size + 1, 0, none⟩) 0 0) 0 [] := by
    have h := World.ownsRow_made (base := w.heap.size + 1) (e := 61) (size := 2) (w.alloc (.cells #[.int .i64 s, .slice (some ⟨b, off, none⟩) n c] 30)) #[] 0 (by simp only [World.size_alloc]; omega) (Nat.zero_le _) rfl
    simpa only [World.size_alloc] using h
  have HQ0 := hid hQ0
  have HX0 := hid ((Box.new w s (some ⟨b, off, none⟩) n c 30).on (on_alloc _ (.cells #[] 61)))
  have HB0 := hid (bfrom (on_alloc w (.cells #[.int .i64 s, .slice (some ⟨b, off, none⟩) n c] 30)) (on_alloc _ (.cells #[] 61)))
  clear hQ0
  go_loopw [5, 6, 7] (fun u a v wr => ∃ (e at' l cap : Nat) (q : Option Addr), e ≤ n ∧ l ≤ e ∧ at' ≤ k ∧ u = .slice q l cap ∧ a = .int .i64 at' ∧ v = .int .i64 e ∧ Hid (wr.ownsRow (w.heap.size + 1) 61 2 (.slice q l cap) l (edgeVals (restU es xs e)) ∧ (restU es xs e).length = l) ∧ Hid (AtI xs e at') ∧ Hid (Below w.heap.size w wr ∧ Box wr w.heap.size s (some ⟨b, off, none⟩) n c)) (fun _ _ v _ => n - (intOf v).toNat)
  case atStart => exact ⟨0, 0, 0, 0, _, Nat.zero_le _, Nat.le_refl _, Nat.zero_le _, rfl, rfl, rfl, hid ⟨HQ0.out, rfl⟩, hid (atI_zero GS.out), hid ⟨HB0.out, HX0.out⟩⟩
  case round =>
    obtain ⟨e, at', l, cap, q, he, hle, hat, rfl, rfl, rfl, hO, hA, hB⟩ := hrel
    clear HQ0 HX0 HB0
    have hxr := hB.out.2.1
    have hyr := hB.out.2.2
    have hzr := hB.out.2.lt
    by_cases hlt : e < n
    · have hbb : b < w.heap.size := reads_lt Hr.out (by have := Hn.out; omega)
      have hbe : b < wr.heap.size := by omega
      have hc1 := (Hr.out.on hB.out.1 e (by have := Hn.out; omega)).1
      have hc2 := (Hr.out.on hB.out.1 e (by have := Hn.out; omega)).2
      obtain ⟨X, hX1⟩ : ∃ X, eA es e = X := ⟨_, rfl⟩
      obtain ⟨Y, hY1⟩ : ∃ Y, eB es e = Y := ⟨_, rfl⟩
      rw [hX1] at hc1
      rw [hY1] at hc2
      have HXY := hid (show eA es e = X ∧ eB es e = Y from ⟨hX1, hY1⟩)
      clear hX1 hY1
      have hl31 : l + 1 ≤ 31 := by omega
      obtain ⟨wo, rfl⟩ : ∃ wo : World, wo = wr := ⟨_, rfl⟩
      by_cases hak : at' < k
      · obtain ⟨sb, so, rfl, hrd⟩ : ∃ sb so, ps = some ⟨sb, so, none⟩ ∧ ReadsI w sb so xs := by
          rcases Hrx.out with h | h
          · have := Hx.out; rw [h] at this; simp at this; omega
          · exact h
        have HRD := hid (hrd.on hB.out.1)
        have hsb := HRD.out.lt (by have := Hx.out; omega)
        have hcx := HRD.out at' (by have := Hx.out; omega)
        obtain ⟨x, hx⟩ : ∃ x, eI xs at' = x := ⟨_, rfl⟩
        rw [hx] at hcx
        have HX := hid hx
        clear hx hrd
        by_cases hxe : x = (e : Int)
        · have HH := hid (hA.out.hit GS.out (by have := Hx.out; omega) (by rw [HX.out, hxe]))
          subst hxe
          go_wp2
          go_roundw
          case rel => exact ⟨e + 1, at' + 1, l, cap, q, by omega, by omega, by omega, rfl, by go_num, by go_num, hid (by rw [restU_no HH.out.2]; exact hO.out), hid HH.out.1, hB⟩
          case measure => simp [intOf]; omega
        · have hxe' : (x == (e : Int)) = false := by simpa using hxe
          have HH := hid (hA.out.miss GS.out (fun _ => by rw [HX.out]; exact hxe))
          clear hxe
          go_wp2_with (at_builtin; go_must (refine wpList_append_lies _ rfl (.tmp 30) (.tmp 36) 28 rfl (w.heap.size + 1) 61 i0 _ 2 16 Try.underlying28 Hi.out hz0 hz1 hz2 rfl (by decide) (.slice q l cap) l _ rfl (hO.out.1.alloc _) ⟨wo.heap.size, 0, none⟩ 1 1 [.int .i64 X, .int .i64 Y] rfl rfl (World.news_of_block (cs := #[.int .i64 X, .int .i64 Y]) (t := 61) (fr := (0, 0)) (heap_alloc_new wo _)) (by simp [Value.oneCell']) (by decide) (by unfold maxLen; omega) (by omega) (by simp; omega) (wo.heap.size + 1) (by simp) ?_); intro g1 cap1 w1 hown1 hgrow1 hlie hg1; have Hown := hid hown1; have Hgrow := hid hgrow1; clear hown1 hgrow1 hlie)
          have hrow : ∀ j, (Value.slice q l cap).ownBlock = some j → w.heap.size + 1 ≤ j ∧ j < wo.heap.size := hO.out.1.lt
          go_roundw
          case rel =>
            refine ⟨e + 1, at', l + 1, cap1, some ⟨g1, 0, none⟩, by omega, by omega, hat, rfl, rfl, by go_num, hid ⟨?_, ?_⟩, hid HH.out.1, hid ⟨?_, ?_⟩⟩
            · rw [restU_yes HH.out.2, edgeVals_append, HXY.out.1, HXY.out.2]; exact Hown.out
            · rw [restU_yes HH.out.2, List.length_append, hO.out.2]; rfl
            · exact (hB.out.1.alloc hB.out.1.size _).grown Hgrow.out (by simp; omega) (fun j hj => by have := (hrow j hj).1; omega)
            · exact (hB.out.2.on (on_alloc _ _)).kept Hgrow.out (fun h => by have := (hrow _ h.symm).1; omega)
          case measure => simp [intOf]; omega
      · have HH := hid (hA.out.miss GS.out (fun h => by have := Hx.out; omega))
        go_wp2_with (at_builtin; go_must (refine wpList_append_lies _ rfl (.tmp 30) (.tmp 36) 28 rfl (w.heap.size + 1) 61 i0 _ 2 16 Try.underlying28 Hi.out hz0 hz1 hz2 rfl (by decide) (.slice q l cap) l _ rfl (hO.out.1.alloc _) ⟨wo.heap.size, 0, none⟩ 1 1 [.int .i64 X, .int .i64 Y] rfl rfl (World.news_of_block (cs := #[.int .i64 X, .int .i64 Y]) (t := 61) (fr := (0, 0)) (heap_alloc_new wo _)) (by simp [Value.oneCell']) (by decide) (by unfold maxLen; omega) (by omega) (by simp; omega) (wo.heap.size + 1) (by simp) ?_); intro g1 cap1 w1 hown1 hgrow1 hlie hg1; have Hown := hid hown1; have Hgrow := hid hgrow1; clear hown1 hgrow1 hlie)
        have hrow : ∀ j, (Value.slice q l cap).ownBlock = some j → w.heap.size + 1 ≤ j ∧ j < wo.heap.size := hO.out.1.lt
        go_roundw
        case rel =>
          refine ⟨e + 1, at', l + 1, cap1, some ⟨g1, 0, none⟩, by omega, by omega, hat, rfl, rfl, by go_num, hid ⟨?_, ?_⟩, hid HH.out.1, hid ⟨?_, ?_⟩⟩
          · rw [restU_yes HH.out.2, edgeVals_append, HXY.out.1, HXY.out.2]; exact Hown.out
          · rw [restU_yes HH.out.2, List.length_append, hO.out.2]; rfl
          · exact (hB.out.1.alloc hB.out.1.size _).grown Hgrow.out (by simp; omega) (fun j hj => by have := (hrow j hj).1; omega)
          · exact (hB.out.2.on (on_alloc _ _)).kept Hgrow.out (fun h => by have := (hrow _ h.symm).1; omega)
        case measure => simp [intOf]; omega
    · obtain rfl : e = n := by omega
      have HR := hid (show restE es xs = restU es xs e by unfold restE; rw [Hn.out])
      go_wp2
      go_ret
      rw [HR.out]
      obtain ⟨ho1, ho2⟩ := hO.out
      refine ⟨q, cap, by rw [ho2]; rfl, ?_, hB.out.1⟩
      rw [ho2]
      exact FreshE.less ⟨ho1, ho2⟩ (by omega)

end Go.Proofs.Ytafiockejagapaa
