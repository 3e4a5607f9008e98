/- Vertices taken out, in the program of chapter 6: withoutVertices. -/
import Derived.Test.YtemhbbggnednpaaOutW
import Derived.Test.YtemhbbggnednpaaLeft
import Derived.Test.YtemhbbggnednpaaImplG
import Derived.Deep.RegionHeld3
import Derived.Deep.AppendLies
namespace Go.Proofs.Ytemhbbggnednpaa
open Go.RowKit

/-- The edges, of the first k ones, that have none of some vertices, with new numbers. -/
def outG (es : List (Int × Int)) (xs : List Int) (i : Nat) : Bool := !decide (eA es i ∈ xs) && !decide (eB es i ∈ xs)
def outU (es : List (Int × Int)) (xs : List Int) (k : Nat) : List (Int × Int) := ((List.range k).filter (outG es xs)).map fun i => (numW (eA es i) xs xs.length, numW (eB es i) xs xs.length)
theorem outU_yes {es : List (Int × Int)} {xs : List Int} {k : Nat} (h : outG es xs k = true) : outU es xs (k + 1) = outU es xs k ++ [(numW (eA es k) xs xs.length, numW (eB es k) xs xs.length)] := by
  unfold outU
  rw [List.range_succ, List.filter_append, List.map_append]
  simp [h]
theorem outU_no {es : List (Int × Int)} {xs : List Int} {k : Nat} (h : outG es xs k = false) : outU es xs (k + 1) = outU es xs k := by
  unfold outU
  rw [List.range_succ, List.filter_append, List.map_append]
  simp [h]
theorem outU_len (es : List (Int × Int)) (xs : List Int) (k : Nat) : (outU es xs k).length ≤ k := by
  unfold outU
  rw [List.length_map]
  exact Nat.le_trans (List.length_filter_le _ _) (by simp)

theorem new_secondW (w : World) (o o2 : Obj) : (((w.alloc o).drew).alloc o2).heap[w.heap.size + 1]? = some o2 := by
  have h := heap_alloc_new ((w.alloc o).drew) o2
  have e : (w.alloc o).drew.heap.size = w.heap.size + 1 := by show (w.alloc o).heap.size = _; simp
  rwa [e] at h

set_option maxRecDepth 100000 in
set_option maxHeartbeats 8000000 in
theorem iWithout_any (s : Int) (b off n c xb xo m mc L : Nat) (es : List (Int × Int)) (xs : List Int) (w : World) (hn : es.length = n) (hn2 : n ≤ 100) (hr : ReadsE w b off es) (hbw : b < w.heap.size) (hx : xs.length = m) (hm : m ≤ 10) (hrx : ReadsI w xb xo xs) (hs : 0 ≤ s ∧ s ≤ 1000)
    (he : ∀ i, i < n → (0 ≤ eA es i ∧ eA es i ≤ 1000) ∧ (0 ≤ eB es i ∧ eB es i ≤ 1000)) (hL : (outU es xs n).length = L) (hL1 : 1 ≤ L) :
    Calls Try.prog 47 #[.int .i64 s, .slice (some ⟨b, off, none⟩) n c, .slice (some ⟨xb, xo, none⟩) m mc] w fun e' w' => ∃ g, e' = .returned (.agg #[.int .i64 (s - (m : Int)), .slice (some ⟨g, 0, none⟩) L L]) ∧ w.heap.size ≤ g ∧ OwnE w' g L (sortE (outU es xs n)) ∧ Below w.heap.size w w' := by
  have Hn := hid hn
  have Hr := hid hr
  have Hx := hid hx
  have Hrx := hid hrx
  have He := hid he
  have HL := hid hL
  have hn9 : n ≤ 9223372036854775807 := by omega
  obtain ⟨hs1, hs2⟩ := hs
  have e1 : IntKind.i64.wrap (s - (m : Int)) = s - (m : Int) := IntWalk.i64_in _ (by omega)
  obtain ⟨i0, hi, hz0, hz1, hz2⟩ := info_parts infoEdge
  have Hi := hid hi
  obtain ⟨w1, hw1⟩ : ∃ w1, w1 = w.alloc (.cells #[.int .i64 0, .slice none 0 0] 28) := ⟨_, rfl⟩
  have HB1 := hid (show Below w.heap.size w w1 by rw [hw1]; exact on_alloc _ _)
  have HG1 := hid (show GBox w1 w.heap.size 0 none 0 0 by rw [hw1]; exact GBox.new _ _ rfl)
  have hz1' := HG1.out.lt
  clear hn hr hx hrx he hL hi
  go_enter Try.func47, Try.ntmps47
  go_wp2
  rw [← hw1]
  clear hw1
  go_loopw [7, 12] (fun u i wr => ∃ (k l cap : Nat) (q : Option Addr), k ≤ n ∧ u = .slice q l cap ∧ i = .int .i64 k ∧ Hid ((outU es xs k).length = l ∧ wr.ownsRow w1.heap.size 58 2 (.slice q l cap) l (edgeVals (outU es xs k))) ∧ Hid (Below w1.heap.size w1 wr)) (fun _ i _ => n - (intOf i).toNat)
  case atStart => exact ⟨0, 0, 0, none, Nat.zero_le _, rfl, rfl, hid ⟨rfl, World.ownsRow_nil _ _ _ _⟩, hid (Below.refl _ _)⟩
  case round =>
    obtain ⟨k, l, cap, q, hk, rfl, rfl, hO, hB⟩ := hrel
    have hszr := hB.out.size
    have hll : l ≤ k := by rw [← hO.out.1]; exact outU_len es xs k
    by_cases hlt : k < n
    · have hlt' : (k : Int) < (n : Int) := by omega
      have HBw := hid (bfrom HB1.out hB.out)
      have hsw := HBw.out.size
      have hrd := Hr.out.on HBw.out k (by have := Hn.out; omega)
      have hc1 := hrd.1
      have hc2 := hrd.2
      have hbr : b < wr.heap.size := by omega
      obtain ⟨heA, heB⟩ := He.out k hlt
      obtain ⟨X, hX⟩ : ∃ X, eA es k = X := ⟨_, rfl⟩
      obtain ⟨Y, hY⟩ : ∃ Y, eB es k = Y := ⟨_, rfl⟩
      rw [hX] at hc1 heA
      rw [hY] at hc2 heB
      obtain ⟨p1, hp1⟩ : ∃ p, decide (X ∈ xs) = p := ⟨_, rfl⟩
      obtain ⟨p2, hp2⟩ : ∃ p, decide (Y ∈ xs) = p := ⟨_, rfl⟩
      have HP := hid (And.intro hp1 hp2)
      have HOG := hid (show outG es xs k = (!p1 && !p2) by unfold outG; rw [hX, hY, hp1, hp2])
      have HXY := hid (And.intro hX hY)
      have HEA := hid (And.intro heA heB)
      clear hX hY hp1 hp2 hrd heA heB
      obtain ⟨wo, rfl⟩ : ∃ wo : World, wo = wr := ⟨_, rfl⟩
      have HC1 := hid (fun (ww : World) (hb : Below wo.heap.size wo ww) => iContains_any (some ⟨xb, xo, none⟩) m mc X xs ww Hx.out (by omega) (.inr ⟨xb, xo, rfl, (Hrx.out.on HBw.out).on hb⟩))
      have HC2 := hid (fun (ww : World) (hb : Below wo.heap.size wo ww) => iContains_any (some ⟨xb, xo, none⟩) m mc Y xs ww Hx.out (by omega) (.inr ⟨xb, xo, rfl, (Hrx.out.on HBw.out).on hb⟩))
      cases p1
      · cases p2
        · go_wp2_with (first
            | (go_at_call_of 85 X; refine (HC1.out _ (on_alloc _ _)).mono ?_; rw [HP.out.1]; rintro e' w' ⟨rfl, rfl⟩)
            | (go_at_call_of 85 Y; refine (HC2.out _ (on_alloc _ _)).mono ?_; rw [HP.out.2]; rintro e' w' ⟨rfl, rfl⟩))
          obtain ⟨NX, hNX⟩ : ∃ NX, numW X xs m = NX := ⟨_, rfl⟩
          obtain ⟨NY, hNY⟩ : ∃ NY, numW Y xs m = NY := ⟨_, rfl⟩
          have HN1 := hid (fun (ww : World) (hb : Below wo.heap.size wo ww) => iNumW_any X xb xo m mc xs ww Hx.out (by omega) ((Hrx.out.on HBw.out).on hb) HEA.out.1)
          have HN2 := hid (fun (ww : World) (hb : Below wo.heap.size wo ww) => iNumW_any Y xb xo m mc xs ww Hx.out (by omega) ((Hrx.out.on HBw.out).on hb) HEA.out.2)
          have HNN := hid (And.intro hNX hNY)
          have hrow : ∀ j, (Value.slice q l cap).ownBlock = some j → w1.heap.size ≤ j ∧ j < wo.heap.size := hO.out.2.lt
          have hneo : some wo.heap.size ≠ (Value.slice q l cap).ownBlock := fun e => by have := (hrow _ e.symm).2; omega
          clear hNX hNY hc1 hc2
          go_region_held3 (fun w' => w'.cell? ⟨wo.heap.size, 0, none⟩ = some (.int .i64 X) ∧ w'.cell? ⟨wo.heap.size, 1, none⟩ = some (.int .i64 Y)) (first | go_keep | exact ⟨(hgrow8.cell_far ⟨wo.heap.size, 0, none⟩ (by simp; omega) hneo).trans (by simp), (hgrow8.cell_far ⟨wo.heap.size, 1, none⟩ (by simp; omega) hneo).trans (by simp)⟩) (first
            | (go_at_call_of 86 X; refine (HN1.out _ (by first | exact (on_alloc _ _).drew | exact bfrom (on_alloc _ _).drew (on_alloc _ _))).mono ?_; rw [HNN.out.1]; rintro e' w' ⟨rfl, rfl⟩)
            | (go_at_call_of 86 Y; refine (HN2.out _ (by first | exact (on_alloc _ _).drew | exact bfrom (on_alloc _ _).drew (on_alloc _ _))).mono ?_; rw [HNN.out.2]; rintro e' w' ⟨rfl, rfl⟩)
            | (refine step_append_lies _ (by rfl) _ _ _ (by rfl) w1.heap.size 58 i0 _ 2 16 Try.underlying26 Hi.out hz0 hz1 hz2 rfl (by omega) (.slice q l cap) l _ (by rfl) (((hO.out.2.alloc _).drew).alloc _) ⟨wo.heap.size + 1, 0, none⟩ 1 1 [.int .i64 NX, .int .i64 NY] (by rfl) (by rfl) (World.news_of_block (cs := #[.int .i64 NX, .int .i64 NY]) (t := 58) (fr := (0, 0)) (new_secondW wo _ _)) (by simp [Value.oneCell']) (by omega) (by unfold maxLen; omega) (by omega) (by simp; omega) (wo.heap.size + 1 + 1) (by simp) ?_; intro gg cap' w8 hown8 hgrow8 hat8 hlt8))
          all_goals
            have Hown8 := hid hown8
            have HB8 := hid ((((hB.out.alloc hszr (.cells #[.int .i64 X, .int .i64 Y] 58)).drew).alloc (by show w1.heap.size ≤ (wo.alloc _).heap.size; simp; omega) (.cells #[.int .i64 NX, .int .i64 NY] 58)).grown hgrow8 (by simp; omega) (fun j hj => (hrow j hj).1))
            clear hown8 hgrow8 hat8
            go_wp2
            go_roundw
            case rel => exact ⟨k + 1, l + 1, cap', some ⟨gg, 0, none⟩, by omega, rfl, by go_num, hid (by rw [outU_yes (by rw [HOG.out]; rfl), HXY.out.1, HXY.out.2, Hx.out, HNN.out.1, HNN.out.2]; exact ⟨by rw [List.length_append, hO.out.1]; rfl, by rw [edgeVals_append]; exact Hown8.out⟩), HB8⟩
            case measure => simp [intOf]; omega
        · go_wp2_with (first
            | (go_at_call_of 85 X; refine (HC1.out _ (on_alloc _ _)).mono ?_; rw [HP.out.1]; rintro e' w' ⟨rfl, rfl⟩)
            | (go_at_call_of 85 Y; refine (HC2.out _ (on_alloc _ _)).mono ?_; rw [HP.out.2]; rintro e' w' ⟨rfl, rfl⟩))
          go_roundw
          case rel => exact ⟨k + 1, l, cap, q, by omega, rfl, by go_num, hid (by rw [outU_no (by rw [HOG.out]; rfl)]; exact ⟨hO.out.1, hO.out.2.alloc _⟩), hid (hB.out.alloc hszr _)⟩
          case measure => simp [intOf]; omega
      · go_wp2_with (first
          | (go_at_call_of 85 X; refine (HC1.out _ (on_alloc _ _)).mono ?_; rw [HP.out.1]; rintro e' w' ⟨rfl, rfl⟩))
        go_roundw
        case rel => exact ⟨k + 1, l, cap, q, by omega, rfl, by go_num, hid (by rw [outU_no (by rw [HOG.out]; cases p2 <;> rfl)]; exact ⟨hO.out.1, hO.out.2.alloc _⟩), hid (hB.out.alloc hszr _)⟩
        case measure => simp [intOf]; omega
    · have hkn := hid (show k = n by omega)
      have HlL := hid (show l = L by rw [← hO.out.1, hkn.out]; exact HL.out)
      obtain ⟨g, rfl⟩ : ∃ g, q = some ⟨g, 0, none⟩ := by
        rcases hO.out.2.2 with ⟨_, h0⟩ | ⟨g, cap', cur, hv, _⟩
        · have := HlL.out; omega
        · injection hv with h1
          exact ⟨g, h1⟩
      have HOE := hid (show OwnE wr g cap (outU es xs n) by
        have h := (OwnE.of_row hO.out.2 hO.out.1).1
        rwa [hkn.out] at h)
      have HKr := hid (HG1.out.on hB.out)
      have hzk := HKr.out.lt
      go_wp2_with fail
      refine (inOrder_any g 0 l cap (outU es xs n) wr (by omega) (by rw [HL.out, HlL.out]) HOE.out.reads).mono ?_
      rw [HlL.out]
      rintro e w6 ⟨rfl, ho6, hb6⟩
      have HO6 := hid ho6
      have HK6 := hid (HKr.out.on hb6)
      have hra := HK6.out.box.1
      have hrb := HK6.out.box.2
      have hfa6 := HK6.out.frozen 0
      have hfb6 := HK6.out.frozen 1
      have hz6 := HK6.out.lt
      have HBw := hid (bfrom (bfrom HB1.out hB.out) hb6)
      clear ho6 hb6
      go_wp2
      refine bodyPost_ret (v := .agg #[.int .i64 (s - (m : Int)), .slice (some ⟨wr.heap.size, 0, none⟩) L L]) (by simp [results, Try.results47, go_sem, hra, hrb]) rfl ⟨wr.heap.size, rfl, by omega, ?_, ?_⟩
      · exact (HO6.out.far (by show wr.heap.size ≠ w.heap.size; omega) _).far (by show wr.heap.size ≠ w.heap.size; omega) _
      · exact (HBw.out.setCell (p := ⟨w.heap.size, 0, none⟩) (by show w.heap.size ≤ w.heap.size; omega) _).setCell (p := ⟨w.heap.size, 1, none⟩) (by show w.heap.size ≤ w.heap.size; omega) _

end Go.Proofs.Ytemhbbggnednpaa
