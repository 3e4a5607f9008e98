/- Star products as lists of edges: taking out vertices of two graphs beside each other, and of each for itself, come to the same. -/
import Derived.Test.YtfdlhdgmbjdhbaaSetI
import Derived.Test.YtfdlhdgmbjdhbaaLawsF
import Derived.Test.YtfdlhdgmbjdhbaaRowsE
import Derived.Test.YtfdlhdgmbjdhbaaOwnMore
import Derived.BigRegion
import Derived.Test.YtfdlhdgmbjdhbaaLeft
import Derived.Test.YtfdlhdgmbjdhbaaImplG
import Derived.Deep.RegionHeld3
import Derived.Deep.AppendLies
import Derived.Test.YtfdlhdgmbjdhbaaIterB
import Derived.Test.YtfdlhdgmbjdhbaaRounds
import Derived.BigQuiet

/- Vertices taken out, in the program of chapter 6: numberWithout, paired. -/
namespace Go.Proofs.Ytfdlhdgmbjdhbaa
open Go.RowKit

/-- The number that v has without the first k of some vertices. -/
def numW (v : Int) (xs : List Int) (k : Nat) : Int := v - (((xs.take k).filter fun x => decide (x < v)).length : Nat)
theorem numW_zero (v : Int) (xs : List Int) : numW v xs 0 = v := by simp [numW]
theorem numW_yes {v : Int} {xs : List Int} {k : Nat} (hk : k < xs.length) (h : eI xs k < v) : numW v xs (k + 1) = numW v xs k - 1 := by
  unfold numW
  rw [List.take_add_one, int_at hk, List.filter_append, List.length_append]
  simp [h]
  omega
theorem numW_no {v : Int} {xs : List Int} {k : Nat} (hk : k < xs.length) (h : ¬ eI xs k < v) : numW v xs (k + 1) = numW v xs k := by
  unfold numW
  rw [List.take_add_one, int_at hk, List.filter_append, List.length_append]
  simp [h]
theorem numW_range (v : Int) (xs : List Int) (k : Nat) : v - k ≤ numW v xs k ∧ numW v xs k ≤ v := by
  unfold numW
  have h := List.length_filter_le (fun x => decide (x < v)) (xs.take k)
  rw [List.length_take] at h
  omega

set_option maxRecDepth 100000 in
set_option maxHeartbeats 2000000 in
theorem iNumW_any (v : Int) (b off m c : Nat) (xs : List Int) (w : World) (hx : xs.length = m) (hm : m ≤ 100) (hr : ReadsI w b off xs) (hv : 0 ≤ v ∧ v ≤ 1000) :
    Calls Try.prog 102 #[.int .i64 v, .slice (some ⟨b, off, none⟩) m c] w fun e w' => e = .returned (.int .i64 (numW v xs m)) ∧ w = w' := by
  have Hx := hid hx
  have Hr := hid hr
  have hv1 := hv.1
  have hv2 := hv.2
  clear hx hr hv
  go_enter Try.func102, Try.ntmps102
  go_wp2
  go_loop [5, 11] (fun u i => ∃ (k : Nat) (y : Int), k ≤ m ∧ u = .int .i64 y ∧ i = .int .i64 k ∧ Hid (numW v xs k = y)) (fun _ i => m - (intOf i).toNat)
  case atStart => exact ⟨0, v, Nat.zero_le _, rfl, rfl, hid (numW_zero v xs)⟩
  case round =>
    obtain ⟨k, y, hk, rfl, rfl, hY⟩ := hrel
    have hrg := numW_range v xs k
    rw [hY.out] at hrg
    by_cases hlt : k < m
    · have hlt' : (k : Int) < (m : Int) := by omega
      have h1 := Hr.out k (by have := Hx.out; omega)
      have hkl : k < xs.length := by have := Hx.out; omega
      obtain ⟨x, hx⟩ : ∃ x, eI xs k = x := ⟨_, rfl⟩
      rw [hx] at h1
      have e1 : IntKind.i64.wrap (y - 1) = y - 1 := IntWalk.i64_in _ (by omega)
      by_cases hxv : x < v
      · have HN := hid (show numW v xs (k + 1) = y - 1 by rw [numW_yes hkl (by rw [hx]; exact hxv), hY.out])
        clear hx
        go_wp2
        go_round
        case rel => exact ⟨k + 1, y - 1, by omega, rfl, by go_num, HN⟩
        case measure => simp [intOf]; omega
      · have HN := hid (show numW v xs (k + 1) = y by rw [numW_no hkl (by rw [hx]; exact hxv), hY.out])
        clear hx
        go_wp2
        go_round
        case rel => exact ⟨k + 1, y, by omega, rfl, by go_num, HN⟩
        case measure => simp [intOf]; omega
    · have hkm := hid (show k = m by omega)
      go_wp2
      go_ret
      exact ⟨by rw [← hkm.out, hY.out]; rfl, rfl⟩

end Go.Proofs.Ytfdlhdgmbjdhbaa

/- Vertices taken out, in the program of chapter 6: withoutVertices. -/
namespace Go.Proofs.Ytfdlhdgmbjdhbaa
open Go.RowKit

/-- The edges, of the first k ones, that have none of some vertices, with new numbers. -/
def outG (es : List (Int × Int)) (xs : List Int) (i : Nat) : Bool := !decide (eA es i ∈ xs) && !decide (eB es i ∈ xs)
def outU (es : List (Int × Int)) (xs : List Int) (k : Nat) : List (Int × Int) := ((List.range k).filter (outG es xs)).map fun i => (numW (eA es i) xs xs.length, numW (eB es i) xs xs.length)
theorem outU_yes {es : List (Int × Int)} {xs : List Int} {k : Nat} (h : outG es xs k = true) : outU es xs (k + 1) = outU es xs k ++ [(numW (eA es k) xs xs.length, numW (eB es k) xs xs.length)] := by
  unfold outU
  rw [List.range_succ, List.filter_append, List.map_append]
  simp [h]
theorem outU_no {es : List (Int × Int)} {xs : List Int} {k : Nat} (h : outG es xs k = false) : outU es xs (k + 1) = outU es xs k := by
  unfold outU
  rw [List.range_succ, List.filter_append, List.map_append]
  simp [h]
theorem outU_len (es : List (Int × Int)) (xs : List Int) (k : Nat) : (outU es xs k).length ≤ k := by
  unfold outU
  rw [List.length_map]
  exact Nat.le_trans (List.length_filter_le _ _) (by simp)

theorem new_secondW (w : World) (o o2 : Obj) : (((w.alloc o).drew).alloc o2).heap[w.heap.size + 1]? = some o2 := by
  have h := heap_alloc_new ((w.alloc o).drew) o2
  have e : (w.alloc o).drew.heap.size = w.heap.size + 1 := by show (w.alloc o).heap.size = _; simp
  rwa [e] at h

set_option maxRecDepth 100000 in
set_option maxHeartbeats 8000000 in
theorem iWithout_any (s : Int) (b off n c xb xo m mc L : Nat) (es : List (Int × Int)) (xs : List Int) (w : World) (hn : es.length = n) (hn2 : n ≤ 100) (hr : ReadsE w b off es) (hbw : b < w.heap.size) (hx : xs.length = m) (hm : m ≤ 10) (hrx : ReadsI w xb xo xs) (hs : 0 ≤ s ∧ s ≤ 1000)
    (he : ∀ i, i < n → (0 ≤ eA es i ∧ eA es i ≤ 1000) ∧ (0 ≤ eB es i ∧ eB es i ≤ 1000)) (hL : (outU es xs n).length = L) (hL1 : 1 ≤ L) :
    Calls Try.prog 78 #[.int .i64 s, .slice (some ⟨b, off, none⟩) n c, .slice (some ⟨xb, xo, none⟩) m mc] w fun e' w' => ∃ g, e' = .returned (.agg #[.int .i64 (s - (m : Int)), .slice (some ⟨g, 0, none⟩) L L]) ∧ w.heap.size ≤ g ∧ OwnE w' g L (sortE (outU es xs n)) ∧ Below w.heap.size w w' := by
  have Hn := hid hn
  have Hr := hid hr
  have Hx := hid hx
  have Hrx := hid hrx
  have He := hid he
  have HL := hid hL
  have hn9 : n ≤ 9223372036854775807 := by omega
  obtain ⟨hs1, hs2⟩ := hs
  have e1 : IntKind.i64.wrap (s - (m : Int)) = s - (m : Int) := IntWalk.i64_in _ (by omega)
  obtain ⟨i0, hi, hz0, hz1, hz2⟩ := info_parts infoEdge
  have Hi := hid hi
  obtain ⟨w1, hw1⟩ : ∃ w1, w1 = w.alloc (.cells #[.int .i64 0, .slice none 0 0] 28) := ⟨_, rfl⟩
  have HB1 := hid (show Below w.heap.size w w1 by rw [hw1]; exact on_alloc _ _)
  have HG1 := hid (show GBox w1 w.heap.size 0 none 0 0 by rw [hw1]; exact GBox.new _ _ rfl)
  have hz1' := HG1.out.lt
  clear hn hr hx hrx he hL hi
  go_enter Try.func78, Try.ntmps78
  go_wp2
  rw [← hw1]
  clear hw1
  go_loopw [7, 12] (fun u i wr => ∃ (k l cap : Nat) (q : Option Addr), k ≤ n ∧ u = .slice q l cap ∧ i = .int .i64 k ∧ Hid ((outU es xs k).length = l ∧ wr.ownsRow w1.heap.size 57 2 (.slice q l cap) l (edgeVals (outU es xs k))) ∧ Hid (Below w1.heap.size w1 wr)) (fun _ i _ => n - (intOf i).toNat)
  case atStart => exact ⟨0, 0, 0, none, Nat.zero_le _, rfl, rfl, hid ⟨rfl, World.ownsRow_nil _ _ _ _⟩, hid (Below.refl _ _)⟩
  case round =>
    obtain ⟨k, l, cap, q, hk, rfl, rfl, hO, hB⟩ := hrel
    have hszr := hB.out.size
    have hll : l ≤ k := by rw [← hO.out.1]; exact outU_len es xs k
    by_cases hlt : k < n
    · have hlt' : (k : Int) < (n : Int) := by omega
      have HBw := hid (bfrom HB1.out hB.out)
      have hsw := HBw.out.size
      have hrd := Hr.out.on HBw.out k (by have := Hn.out; omega)
      have hc1 := hrd.1
      have hc2 := hrd.2
      have hbr : b < wr.heap.size := by omega
      obtain ⟨heA, heB⟩ := He.out k hlt
      obtain ⟨X, hX⟩ : ∃ X, eA es k = X := ⟨_, rfl⟩
      obtain ⟨Y, hY⟩ : ∃ Y, eB es k = Y := ⟨_, rfl⟩
      rw [hX] at hc1 heA
      rw [hY] at hc2 heB
      obtain ⟨p1, hp1⟩ : ∃ p, decide (X ∈ xs) = p := ⟨_, rfl⟩
      obtain ⟨p2, hp2⟩ : ∃ p, decide (Y ∈ xs) = p := ⟨_, rfl⟩
      have HP := hid (And.intro hp1 hp2)
      have HOG := hid (show outG es xs k = (!p1 && !p2) by unfold outG; rw [hX, hY, hp1, hp2])
      have HXY := hid (And.intro hX hY)
      have HEA := hid (And.intro heA heB)
      clear hX hY hp1 hp2 hrd heA heB
      obtain ⟨wo, rfl⟩ : ∃ wo : World, wo = wr := ⟨_, rfl⟩
      have HC1 := hid (fun (ww : World) (hb : Below wo.heap.size wo ww) => iContains_any (some ⟨xb, xo, none⟩) m mc X xs ww Hx.out (by omega) (.inr ⟨xb, xo, rfl, (Hrx.out.on HBw.out).on hb⟩))
      have HC2 := hid (fun (ww : World) (hb : Below wo.heap.size wo ww) => iContains_any (some ⟨xb, xo, none⟩) m mc Y xs ww Hx.out (by omega) (.inr ⟨xb, xo, rfl, (Hrx.out.on HBw.out).on hb⟩))
      cases p1
      · cases p2
        · go_wp2_with (first
            | (go_at_call_of 72 X; refine (HC1.out _ (on_alloc _ _)).mono ?_; rw [HP.out.1]; rintro e' w' ⟨rfl, rfl⟩)
            | (go_at_call_of 72 Y; refine (HC2.out _ (on_alloc _ _)).mono ?_; rw [HP.out.2]; rintro e' w' ⟨rfl, rfl⟩))
          obtain ⟨NX, hNX⟩ : ∃ NX, numW X xs m = NX := ⟨_, rfl⟩
          obtain ⟨NY, hNY⟩ : ∃ NY, numW Y xs m = NY := ⟨_, rfl⟩
          have HN1 := hid (fun (ww : World) (hb : Below wo.heap.size wo ww) => iNumW_any X xb xo m mc xs ww Hx.out (by omega) ((Hrx.out.on HBw.out).on hb) HEA.out.1)
          have HN2 := hid (fun (ww : World) (hb : Below wo.heap.size wo ww) => iNumW_any Y xb xo m mc xs ww Hx.out (by omega) ((Hrx.out.on HBw.out).on hb) HEA.out.2)
          have HNN := hid (And.intro hNX hNY)
          have hrow : ∀ j, (Value.slice q l cap).ownBlock = some j → w1.heap.size ≤ j ∧ j < wo.heap.size := hO.out.2.lt
          have hneo : some wo.heap.size ≠ (Value.slice q l cap).ownBlock := fun e => by have := (hrow _ e.symm).2; omega
          clear hNX hNY hc1 hc2
          go_region_held3 (fun w' => w'.cell? ⟨wo.heap.size, 0, none⟩ = some (.int .i64 X) ∧ w'.cell? ⟨wo.heap.size, 1, none⟩ = some (.int .i64 Y)) (first | go_keep | exact ⟨(hgrow8.cell_far ⟨wo.heap.size, 0, none⟩ (by simp; omega) hneo).trans (by simp), (hgrow8.cell_far ⟨wo.heap.size, 1, none⟩ (by simp; omega) hneo).trans (by simp)⟩) (first
            | (go_at_call_of 102 X; refine (HN1.out _ (by first | exact (on_alloc _ _).drew | exact bfrom (on_alloc _ _).drew (on_alloc _ _))).mono ?_; rw [HNN.out.1]; rintro e' w' ⟨rfl, rfl⟩)
            | (go_at_call_of 102 Y; refine (HN2.out _ (by first | exact (on_alloc _ _).drew | exact bfrom (on_alloc _ _).drew (on_alloc _ _))).mono ?_; rw [HNN.out.2]; rintro e' w' ⟨rfl, rfl⟩)
            | (refine step_append_lies _ (by rfl) _ _ _ (by rfl) w1.heap.size 57 i0 _ 2 16 Try.underlying26 Hi.out hz0 hz1 hz2 rfl (by omega) (.slice q l cap) l _ (by rfl) (((hO.out.2.alloc _).drew).alloc _) ⟨wo.heap.size + 1, 0, none⟩ 1 1 [.int .i64 NX, .int .i64 NY] (by rfl) (by rfl) (World.news_of_block (cs := #[.int .i64 NX, .int .i64 NY]) (t := 57) (fr := (0, 0)) (new_secondW wo _ _)) (by simp [Value.oneCell']) (by omega) (by unfold maxLen; omega) (by omega) (by simp; omega) (wo.heap.size + 1 + 1) (by simp) ?_; intro gg cap' w8 hown8 hgrow8 hat8 hlt8))
          all_goals
            have Hown8 := hid hown8
            have HB8 := hid ((((hB.out.alloc hszr (.cells #[.int .i64 X, .int .i64 Y] 57)).drew).alloc (by show w1.heap.size ≤ (wo.alloc _).heap.size; simp; omega) (.cells #[.int .i64 NX, .int .i64 NY] 57)).grown hgrow8 (by simp; omega) (fun j hj => (hrow j hj).1))
            clear hown8 hgrow8 hat8
            go_wp2
            go_roundw
            case rel => exact ⟨k + 1, l + 1, cap', some ⟨gg, 0, none⟩, by omega, rfl, by go_num, hid (by rw [outU_yes (by rw [HOG.out]; rfl), HXY.out.1, HXY.out.2, Hx.out, HNN.out.1, HNN.out.2]; exact ⟨by rw [List.length_append, hO.out.1]; rfl, by rw [edgeVals_append]; exact Hown8.out⟩), HB8⟩
            case measure => simp [intOf]; omega
        · go_wp2_with (first
            | (go_at_call_of 72 X; refine (HC1.out _ (on_alloc _ _)).mono ?_; rw [HP.out.1]; rintro e' w' ⟨rfl, rfl⟩)
            | (go_at_call_of 72 Y; refine (HC2.out _ (on_alloc _ _)).mono ?_; rw [HP.out.2]; rintro e' w' ⟨rfl, rfl⟩))
          go_roundw
          case rel => exact ⟨k + 1, l, cap, q, by omega, rfl, by go_num, hid (by rw [outU_no (by rw [HOG.out]; rfl)]; exact ⟨hO.out.1, hO.out.2.alloc _⟩), hid (hB.out.alloc hszr _)⟩
          case measure => simp [intOf]; omega
      · go_wp2_with (first
          | (go_at_call_of 72 X; refine (HC1.out _ (on_alloc _ _)).mono ?_; rw [HP.out.1]; rintro e' w' ⟨rfl, rfl⟩))
        go_roundw
        case rel => exact ⟨k + 1, l, cap, q, by omega, rfl, by go_num, hid (by rw [outU_no (by rw [HOG.out]; cases p2 <;> rfl)]; exact ⟨hO.out.1, hO.out.2.alloc _⟩), hid (hB.out.alloc hszr _)⟩
        case measure => simp [intOf]; omega
    · have hkn := hid (show k = n by omega)
      have HlL := hid (show l = L by rw [← hO.out.1, hkn.out]; exact HL.out)
      obtain ⟨g, rfl⟩ : ∃ g, q = some ⟨g, 0, none⟩ := by
        rcases hO.out.2.2 with ⟨_, h0⟩ | ⟨g, cap', cur, hv, _⟩
        · have := HlL.out; omega
        · injection hv with h1
          exact ⟨g, h1⟩
      have HOE := hid (show OwnE wr g cap (outU es xs n) by
        have h := (OwnE.of_row hO.out.2 hO.out.1).1
        rwa [hkn.out] at h)
      have HKr := hid (HG1.out.on hB.out)
      have hzk := HKr.out.lt
      go_wp2_with fail
      refine (inOrder_any g 0 l cap (outU es xs n) wr (by omega) (by rw [HL.out, HlL.out]) HOE.out.reads).mono ?_
      rw [HlL.out]
      rintro e w6 ⟨rfl, ho6, hb6⟩
      have HO6 := hid ho6
      have HK6 := hid (HKr.out.on hb6)
      have hra := HK6.out.box.1
      have hrb := HK6.out.box.2
      have hfa6 := HK6.out.frozen 0
      have hfb6 := HK6.out.frozen 1
      have hz6 := HK6.out.lt
      have HBw := hid (bfrom (bfrom HB1.out hB.out) hb6)
      clear ho6 hb6
      go_wp2
      refine bodyPost_ret (v := .agg #[.int .i64 (s - (m : Int)), .slice (some ⟨wr.heap.size, 0, none⟩) L L]) (by simp [results, Try.results78, go_sem, hra, hrb]) rfl ⟨wr.heap.size, rfl, by omega, ?_, ?_⟩
      · exact (HO6.out.far (by show wr.heap.size ≠ w.heap.size; omega) _).far (by show wr.heap.size ≠ w.heap.size; omega) _
      · exact (HBw.out.setCell (p := ⟨w.heap.size, 0, none⟩) (by show w.heap.size ≤ w.heap.size; omega) _).setCell (p := ⟨w.heap.size, 1, none⟩) (by show w.heap.size ≤ w.heap.size; omega) _

end Go.Proofs.Ytfdlhdgmbjdhbaa

/- Pairs of vertices, in the program of chapter 6: paired. -/
namespace Go.Proofs.Ytfdlhdgmbjdhbaa
open Go.RowKit

/-- The pairs of two lists. -/
def pairL (xs ys : List Int) (k : Nat) : List (Int × Int) := (List.range k).map fun i => (eI xs i, eI ys i)
theorem pairL_len (xs ys : List Int) (k : Nat) : (pairL xs ys k).length = k := by simp [pairL]
theorem pairL_at {xs ys : List Int} {n k : Nat} (hk : k < n) : (pairL xs ys n)[k]? = some (eI xs k, eI ys k) := by simp [pairL, hk]

set_option maxRecDepth 100000 in
set_option maxHeartbeats 4000000 in
theorem iPaired_any (xb xo n c yb yo m d : Nat) (xs ys : List Int) (w : World) (hx : xs.length = n) (hn : n ≤ 100) (hr : ReadsI w xb xo xs) (hy : ys.length = m) (hm : n ≤ m) (hm2 : m ≤ 100) (hry : ReadsI w yb yo ys) :
    Calls Try.prog 76 #[.slice (some ⟨xb, xo, none⟩) n c, .slice (some ⟨yb, yo, none⟩) m d] w fun e w' => ∃ g cap, e = .returned (.slice (some ⟨g, 0, none⟩) n cap) ∧ w.heap.size ≤ g ∧ OwnE w' g cap (pairL xs ys n) ∧ Below w.heap.size w w' := by
  have Hx := hid hx
  have Hr := hid hr
  have Hy := hid hy
  have Hry := hid hry
  obtain ⟨i0, hi, hz0, hz1, hz2⟩ := info_parts infoEdge
  have Hi := hid hi
  clear hx hr hy hry hi
  go_enter Try.func76, Try.ntmps76
  go_wp2_with (at_make; refine wpList_make_full _ rfl _ _ 26 rfl w.heap.size 57 i0 (.agg #[.int .i64 0, .int .i64 0]) 2 Try.underlying26 Hi.out hz0 hz1 _ _ _ _ n rfl rfl rfl rfl (by rw [hz2]; omega) (by unfold maxLen; omega) (Nat.le_refl _) ?_; intro w1 hown hgrow; have Ho := hid (OwnE.made hown); have Hb := hid ((Below.refl w.heap.size w).grown hgrow (Nat.le_refl _) (fun k e => by cases e)); clear hown hgrow)
  go_loopw [13] (fun i wr => ∃ k : Nat, k ≤ n ∧ i = .int .i64 k ∧ Hid (OwnE wr w.heap.size n ((pairL xs ys n).take k ++ List.replicate (n - k) (0, 0))) ∧ Hid (Below w.heap.size w wr)) (fun i _ => n - (intOf i).toNat)
  case atStart => exact ⟨0, Nat.zero_le _, rfl, hid (by simpa using Ho.out), Hb⟩
  case round =>
    obtain ⟨k, hk, rfl, hO, hB⟩ := hrel
    by_cases hlt : k < n
    · have hlt' : (k : Int) < (n : Int) := by omega
      have hkm' : (k : Int) < (m : Int) := by omega
      have h1 := Hr.out.on hB.out k (by have := Hx.out; omega)
      have h2 := Hry.out.on hB.out k (by have := Hy.out; omega)
      have hcl : ((pairL xs ys n).take k ++ List.replicate (n - k) ((0 : Int), (0 : Int))).length = n := by rw [List.length_append, List.length_take, pairL_len, List.length_replicate]; omega
      have hce := hO.out.reads k (by rw [hcl]; exact hlt)
      rw [Nat.zero_add] at hce
      obtain ⟨hce1, hce2⟩ := hce
      have hf1 := hO.out.free (k * 2)
      have hf2 := hO.out.free (k * 2 + 1)
      have hgl := hO.out.lt
      have hxl := World.block_lt_of_cell? wr _ h1
      have hyl := World.block_lt_of_cell? wr _ h2
      obtain ⟨x, hx⟩ : ∃ x, eI xs k = x := ⟨_, rfl⟩
      obtain ⟨y, hy⟩ : ∃ y, eI ys k = y := ⟨_, rfl⟩
      rw [hx] at h1
      rw [hy] at h2
      have HXY := hid (And.intro hx hy)
      clear hx hy hcl
      go_wp2
      go_roundw
      case rel =>
        refine ⟨k + 1, by omega, by go_num, hid ?_, hid ?_⟩
        · rw [← fill_step (pairL_len xs ys n) hlt (x, y) (by rw [pairL_at hlt, HXY.out.1, HXY.out.2])]
          exact hO.out.set (by rw [List.length_append, List.length_take, pairL_len, List.length_replicate]; omega) x y
        · exact (hB.out.setCell (p := ⟨w.heap.size, k * 2, none⟩) (Nat.le_refl _) _).setCell (p := ⟨w.heap.size, k * 2 + 1, none⟩) (Nat.le_refl _) _
      case measure => simp [intOf]; omega
    · obtain rfl : k = n := by omega
      go_wp2
      go_ret
      have h := hO.out
      rw [List.take_of_length_le (by rw [pairL_len]; exact Nat.le_refl _), Nat.sub_self, List.replicate_zero, List.append_nil] at h
      exact ⟨w.heap.size, k, rfl, Nat.le_refl _, h, hB.out⟩

end Go.Proofs.Ytfdlhdgmbjdhbaa

/- The other ends of the edges at a vertex, without those that join two given vertices, in the program of chapter 6: endsAround. -/
namespace Go.Proofs.Ytfdlhdgmbjdhbaa
open Go.RowKit Go.Shelf

attribute [local go_sem] Oper.semAt_some

theorem row_lessE {w : World} {B B' : Nat} {e : TypeId} {sz n : Nat} {v : Value} {xs : List Value} (h : w.ownsRow B e sz v n xs) (hB : B' ≤ B) : w.ownsRow B' e sz v n xs := by
  refine ⟨h.1, ?_⟩
  rcases h.2 with hn | ⟨g, c, cur, hv, hb, r⟩
  · exact .inl hn
  · exact .inr ⟨g, c, cur, hv, Nat.le_trans hB hb, r⟩
theorem freshI_ofE {B : Nat} {w : World} {v : Value} {n : Nat} {xs : List Int} (h : w.ownsRow B 2 1 v n (intVals xs)) (hl : xs.length = n) : ∃ q cap, v = .slice q n cap ∧ FreshI B w q n cap xs := by
  rcases h.2 with ⟨rfl, h0⟩ | ⟨g, cap, cur, rfl, _⟩
  · subst h0
    exact ⟨none, 0, rfl, h, hl⟩
  · exact ⟨_, _, rfl, h, hl⟩

def keepE (es : List (Int × Int)) (x y : Int) (e : Nat) : Bool := !(eA es e == x && eB es e == y)
def endL (es : List (Int × Int)) (x y : Int) (ps : List (Nat × Int)) : List Int := (ps.filter fun p => keepE es x y p.1).map Prod.snd
theorem endL_snoc_yes {es : List (Int × Int)} {x y : Int} {ps : List (Nat × Int)} {p : Nat × Int} (h : keepE es x y p.1 = true) : endL es x y (ps ++ [p]) = endL es x y ps ++ [p.2] := by
  unfold endL
  rw [List.filter_append, List.map_append]
  simp [h]
theorem endL_snoc_no {es : List (Int × Int)} {x y : Int} {ps : List (Nat × Int)} {p : Nat × Int} (h : keepE es x y p.1 = false) : endL es x y (ps ++ [p]) = endL es x y ps := by
  unfold endL
  rw [List.filter_append, List.map_append]
  simp [h]
theorem endL_len (es : List (Int × Int)) (x y : Int) (ps : List (Nat × Int)) : (endL es x y ps).length ≤ ps.length := by
  unfold endL
  rw [List.length_map]
  exact List.length_filter_le _ _

set_option maxRecDepth 100000 in
set_option maxHeartbeats 8000000 in
theorem iEndA_any (s v x y : Int) (b off n c : Nat) (es : List (Int × Int)) (w : World) (hn30 : n ≤ 100) (hn : es.length = n) (hr : ReadsE w b off es) (hbl : b < w.heap.size) :
    Calls Try.prog 77 #[.agg #[.int .i64 s, .slice (some ⟨b, off, none⟩) n c], .int .i64 v, .agg #[.int .i64 x, .int .i64 y]] w fun e w' => ∃ q cap, e = .returned (.slice q (endL es x y (arF es v)).length cap) ∧ FreshI w.heap.size w' q (endL es x y (arF es v)).length cap (endL es x y (arF es v)) ∧ Below w.heap.size w w' := by
  have Hn := hid hn
  have Hr := hid hr
  obtain ⟨i0, hi, hz0, hz1, hz2⟩ := info_parts infoInt
  have Hi := hid hi
  clear hn hr hi
  refine (callsIn_wide (n := 6)).1 ?_
  refine callsIn_of_wp_marks Try.func77 rfl trivial ?_ rfl
  simp only [Try.ntmps77, List.size_toArray, List.length_cons, List.length_nil, Nat.reduceAdd, Nat.reduceSub, Array.replicate_succ, Array.replicate_zero, List.push_toArray, List.append_toArray, List.nil_append, List.cons_append]
  gi_wp2_with (refine ⟨trivial, ?_⟩; gi_at_call 84; refine (callsIn_wide.2 (iAround_any _ _ _ _ _ _)).mono ?_; rintro e w' ⟨rfl, rfl⟩)
  obtain ⟨W0, hW0⟩ : ∃ W0 : World, W0 = (((((w.alloc (.cells #[.int .i64 s, .slice (some ⟨b, off, none⟩) n c] 28)).alloc (.cells #[.int .i64 x, .int .i64 y] 57)).alloc (.cells #[.slice none 0 0] 41)).alloc (.cells #[.int .i64 s, .slice (some ⟨b, off, none⟩) n c] 28)).alloc (.cells #[.int .i64 v] 2)) := ⟨_, rfl⟩
  rw [← hW0]
  have hsz : W0.heap.size = w.heap.size + 5 := by rw [hW0]; simp
  have hB0 : Below w.heap.size w W0 := by rw [hW0]; exact bfrom (bfrom (bfrom (bfrom (on_alloc _ _) (on_alloc _ _)) (on_alloc _ _)) (on_alloc _ _)) (on_alloc _ _)
  have b1 : W0.heap[w.heap.size]? = some (.cells #[.int .i64 s, .slice (some ⟨b, off, none⟩) n c] 28 (0, 0)) := by
    rw [hW0]
    exact (Below.heap_alloc _ _ _ (by simp <;> omega)).trans ((Below.heap_alloc _ _ _ (by simp <;> omega)).trans ((Below.heap_alloc _ _ _ (by simp <;> omega)).trans ((Below.heap_alloc _ _ _ (by simp)).trans (World.alloc_heap_new w _))))
  have b2 : W0.heap[w.heap.size + 1]? = some (.cells #[.int .i64 x, .int .i64 y] 57 (0, 0)) := by
    rw [hW0]
    have h1 := World.alloc_heap_new (w.alloc (.cells #[.int .i64 s, .slice (some ⟨b, off, none⟩) n c] 28)) (.cells #[.int .i64 x, .int .i64 y] 57)
    rw [World.size_alloc] at h1
    exact (Below.heap_alloc _ _ _ (by simp <;> omega)).trans ((Below.heap_alloc _ _ _ (by simp <;> omega)).trans ((Below.heap_alloc _ _ _ (by simp)).trans h1))
  have b3 : Boxed W0 (w.heap.size + 1 + 1) 41 (.slice none 0 0) := by
    rw [hW0]
    have h1 := Boxed.new ((w.alloc (.cells #[.int .i64 s, .slice (some ⟨b, off, none⟩) n c] 28)).alloc (.cells #[.int .i64 x, .int .i64 y] 57)) 41 (.slice none 0 0)
    simp only [World.size_alloc] at h1
    exact (h1.alloc _).alloc _
  have hbG : W0.cell? ⟨w.heap.size + 1 + 1 + 1, 1, none⟩ = some (.slice (some ⟨b, off, none⟩) n c) := by
    rw [hW0]
    have h := ((Box.new (((w.alloc (.cells #[.int .i64 s, .slice (some ⟨b, off, none⟩) n c] 28)).alloc (.cells #[.int .i64 x, .int .i64 y] 57)).alloc (.cells #[.slice none 0 0] 41)) s (some ⟨b, off, none⟩) n c 28).on (on_alloc _ (.cells #[.int .i64 v] 2))).2
    simpa only [World.size_alloc] using h
  have hbV : W0.cell? ⟨w.heap.size + 1 + 1 + 1 + 1, 0, none⟩ = some (.int .i64 v) := by
    rw [hW0]
    have h := (Boxed.new ((((w.alloc (.cells #[.int .i64 s, .slice (some ⟨b, off, none⟩) n c] 28)).alloc (.cells #[.int .i64 x, .int .i64 y] 57)).alloc (.cells #[.slice none 0 0] 41)).alloc (.cells #[.int .i64 s, .slice (some ⟨b, off, none⟩) n c] 28)) 2 (.int .i64 v)).cell
    simpa only [World.size_alloc] using h
  have hal : ∀ k, (arU es v k).length ≤ k := arU_len es v
  clear hW0
  refine wpIn_rangeFunc_ownG (n := 6) rfl (by omega) (gf := 106) (lb := #[.pointer (some ⟨w.heap.size + 1 + 1 + 1, 0, none⟩), .pointer (some ⟨w.heap.size + 1 + 1 + 1 + 1, 0, none⟩)]) rfl trivial (enters_of Try.func106 (by kernel_rfl) rfl)
    (aroundS_stops100 5 (by omega) (w.heap.size + 1 + 1 + 1) (w.heap.size + 1 + 1 + 1 + 1) (w.heap.size + 1 + 1) b off n c v es Hn.out hn30 (by omega) W0 (by omega) hbG hbV (by omega) (by omega) (Hr.out.on hB0)) kpB_t (kpB_b (by omega) (by omega)) (Below.refl _ _) (fun _ => rfl)
    (fun (pre : List (ArS es v)) W => ((∃ u, Boxed W (w.heap.size + 1 + 1) 41 u ∧ W.ownsRow (w.heap.size + 5) 2 1 u (endL es x y (pre.map Subtype.val)).length (intVals (endL es x y (pre.map Subtype.val))) ∧ True) ∧ Below (w.heap.size + 1 + 1) W0 W))
    (fun _ _ _ => False)
    (OwnFrom.and (Own.from (holdsRow_own (w.heap.size + 5) (w.heap.size + 1 + 1) 41 2 1 (fun (pre : List (ArS es v)) => (endL es x y (pre.map Subtype.val)).length) (fun (pre : List (ArS es v)) => intVals (endL es x y (pre.map Subtype.val))) (fun _ _ => True)) _) (fun pre Y Z row hs hg hrow => hs.grown hg (by have := hs.size; omega) (fun k hk => by have := (hrow k hk).1; omega)))
    (fun _ _ _ _ _ hs _ _ => hs)
    ⟨⟨_, b3, World.ownsRow_nil _ _ _ _, trivial⟩, Below.refl _ _⟩
    ?a1 ?assign ?body ?done ?stop
  case assign =>
    intro l p W K hK
    gi_wp2
    exact hK
  case body =>
    rintro l pre ⟨⟨f, u⟩, hfl, hfo, hfu⟩ W ⟨⟨u7, h7, hrow, _⟩, hB⟩ hlt
    have hfn : f < n := by have := Hn.out; omega
    have hfn' : (f : Int) < (n : Int) := by omega
    have hszW := hB.size
    have hg1 := (hB.block w.heap.size (by omega)).trans b1
    have hg2 := (hB.block (w.heap.size + 1) (by omega)).trans b2
    have hk1 : W.cell? ⟨w.heap.size, 1, none⟩ = some (.slice (some ⟨b, off, none⟩) n c) := (cell_of_row W w.heap.size 1 _ _ _ hg1).trans rfl
    have hk2 : W.cell? ⟨w.heap.size + 1, 0, none⟩ = some (.int .i64 x) := (cell_of_row W (w.heap.size + 1) 0 _ _ _ hg2).trans rfl
    have hk3 : W.cell? ⟨w.heap.size + 1, 1, none⟩ = some (.int .i64 y) := (cell_of_row W (w.heap.size + 1) 1 _ _ _ hg2).trans rfl
    have hrd := Hr.out.on (hB0.trans (hB.mono (by omega))) f hfl
    have hc1 := hrd.1
    have hc2 := hrd.2
    have hbW : b < W.heap.size := by omega
    have hwl : w.heap.size < W.heap.size := by omega
    have hwl2 : w.heap.size + 1 < W.heap.size := by omega
    have hc7 := h7.cell
    have hf7 := h7.frozen
    have hl7 := h7.lt
    obtain ⟨X, hX⟩ : ∃ X, eA es f = X := ⟨_, rfl⟩
    obtain ⟨Y, hY⟩ : ∃ Y, eB es f = Y := ⟨_, rfl⟩
    obtain ⟨kb, hkb⟩ : ∃ kb, keepE es x y f = kb := ⟨_, rfl⟩
    have hneq : ∀ w', (binOp .neq 57 (.agg #[.int .i64 X, .int .i64 Y]) (.agg #[.int .i64 x, .int .i64 y])).run Try.prog w' = .ok (.bool kb) w' := fun w' => by
      rw [edge_neq, ← hkb, ← hX, ← hY]
      rfl
    rw [hX] at hc1
    rw [hY] at hc2
    have HKB := hid hkb
    have HEnc := hid (And.intro hfo hfu)
    have H7 := hid (And.intro h7 hrow)
    have HBW := hid hB
    have hpl : (endL es x y (pre.map Subtype.val)).length < 101 := by
      have h1 := endL_len es x y (pre.map Subtype.val)
      rw [List.length_map] at h1
      have h2 := hal es.length
      have := Hn.out
      unfold arF at hlt
      omega
    clear hX hY hkb hrd hg1 hg2 hB h7 hrow
    cases kb
    · gi_wp2
      refine region_round_quiet rfl (by kernel_rfl) (by kernel_rfl) (by kernel_rfl) ?_
      repeat (gi_big_quiet_step (fail))
      refine wpQuietIn_nil ?_
      intro _ hw'
      obtain ⟨nq, rfl⟩ := hw'
      gi_wp2
      refine ⟨⟨Nat.le_refl _, fun k o _ hk _ => hk⟩, ⟨bdn.mpr (Below.refl _ _), rfl⟩, ⟨_, H7.out.1, ?_, trivial⟩, bdn.mpr HBW.out⟩
      rw [List.map_append, List.map_singleton, endL_snoc_no HKB.out]
      exact H7.out.2
    · have hrow9 : ∀ nq, (W.drewN nq).ownsRow (w.heap.size + 5) 2 1 u7 (endL es x y (pre.map Subtype.val)).length (intVals (endL es x y (pre.map Subtype.val))) := fun nq => H7.out.2
      have hu9 : ∀ nq, Boxed (W.drewN nq) (w.heap.size + 1 + 1) 41 u7 := fun nq => H7.out.1
      obtain ⟨P0, hP0⟩ : ∃ P0, (endL es x y (pre.map Subtype.val)).length = P0 := ⟨_, rfl⟩
      rw [hP0] at hpl
      have HP0 := hid hP0
      have HSn := hid (show endL es x y ((pre ++ ([⟨(f, u), hfl, hfo, hfu⟩] : List (ArS es v))).map Subtype.val) = endL es x y (pre.map Subtype.val) ++ [u] by rw [List.map_append, List.map_singleton, endL_snoc_yes HKB.out])
      gi_wp2
      refine region_round_quiet rfl (by kernel_rfl) (by kernel_rfl) (by kernel_rfl) ?_
      repeat (gi_big_quiet_step (fail))
      refine wpQuietIn_nil ?_
      intro _ hw'
      obtain ⟨nq, rfl⟩ := hw'
      obtain ⟨V, hV⟩ : ∃ V, V = W.drewN nq := ⟨_, rfl⟩
      rw [← hV]
      have hrowV : V.ownsRow (w.heap.size + 5) 2 1 u7 P0 (intVals (endL es x y (pre.map Subtype.val))) := by rw [hV, ← hP0]; exact hrow9 nq
      have huV : Boxed V (w.heap.size + 1 + 1) 41 u7 := by rw [hV]; exact hu9 nq
      have hVs : V.heap.size = W.heap.size := by rw [hV]; rfl
      have HVB := hid (show Below (w.heap.size + 1 + 1) W V by rw [hV]; exact bdn.mpr (Below.refl _ _))
      have HVK := hid (show KeepsOthers W V by rw [hV]; exact ⟨Nat.le_refl _, fun k o hk _ => hk⟩)
      have HVs := hid (show V.heap[w.heap.size + 1 + 1 + 1 + 1]? = W.heap[w.heap.size + 1 + 1 + 1 + 1]? by rw [hV]; rfl)
      have hcV := huV.cell
      have hfV := huV.frozen
      have hlV := huV.lt
      have HVz := hid hVs
      clear hV hrow9 hu9 hP0 hVs hc7 hf7
      gi_wp2_with (gi_at_builtin; refine wpListIn_append_own _ rfl _ _ 41 rfl (w.heap.size + 5) 2 i0 (.int .i64 0) 1 8 Try.underlying41 Hi.out hz0 hz1 hz2 rfl (by decide) _ _ _ rfl (hrowV.alloc _) ⟨V.heap.size, 0, none⟩ 1 1 [.int .i64 u] rfl rfl (cell_one_new _ _ _) (by simp [Value.oneCell']) (by unfold maxLen; omega) (by omega) (by simp; have := HVz.out; omega) ?_; intro v' w1 hown' hgrow _; obtain ⟨g', cap', rfl⟩ := ownsRow_succ hown'; have hu1 : Boxed w1 (w.heap.size + 1 + 1) 41 u7 := (huV.alloc _).kept hgrow (huV.not_row (by decide) hrowV); have hc1' := hu1.cell; have hf1' := hu1.frozen)
      obtain ⟨_, hu2, _, hk2', hb2'⟩ := huV.appended (n₀ := w.heap.size + 1 + 1) (by decide) (row_lessE hrowV (by omega)) (by have := HVz.out; omega) (Nat.le_refl _) (row_lessE hown' (by omega)) hgrow
      refine ⟨(HVK.out.trans hk2').from _, ⟨HVB.out.trans hb2', ?_⟩, ⟨_, hu2, ?_, trivial⟩, (HBW.out.trans HVB.out).trans hb2'⟩
      · have h1 := hgrow.block (w.heap.size + 1 + 1 + 1 + 1) (by simp; have := HVz.out; omega) (fun h => by have := (hrowV.lt _ h.symm).1; omega)
        exact ((heap_setCell_other w1 ⟨w.heap.size + 1 + 1, 0, none⟩ _ _ (by show w.heap.size + 1 + 1 + 1 + 1 ≠ w.heap.size + 1 + 1; omega)).trans (h1.trans (Below.heap_alloc V _ _ (by have := HVz.out; omega)))).trans HVs.out
      · have h2 := hown'.kept (grownBy_setCell' w1 (w.heap.size + 1 + 1) (.slice (some ⟨g', 0, none⟩) (P0 + 1) cap')) (.inr (hu1.not_row (by decide) hown').symm)
        rw [HSn.out, intVals_append, List.length_append, HP0.out]
        exact h2
  case done =>
    rintro D ys W hD hys ⟨⟨u7, h7, hrow, _⟩, hB⟩ hK
    have hc7 := h7.cell
    have hl7 := h7.lt
    rw [hys] at hrow
    gi_wp2
    refine ⟨by simp, .inl ⟨_, _, rfl, run_takeDeferred hK, ?_⟩⟩
    have hrw := ownsRow_putObj hrow (.deferred none) hK rfl
    obtain ⟨q, cap, rfl, hf⟩ := freshI_ofE hrw rfl
    exact ⟨.slice q (endL es x y (arF es v)).length cap, by simp [results, Try.results77, go_sem], q, cap, rfl, hf.less (by omega), (hB0.trans (hB.mono (by omega))).trans (belowK_b (w := w) (Nat.le_refl _) W D _ _ (by omega) hK rfl rfl)⟩
  case stop =>
    rintro D c pre W _ _ h _
    exact h.elim

end Go.Proofs.Ytfdlhdgmbjdhbaa

namespace Go.Proofs.Ytfdlhdgmbjdhbaa
open Go.RowKit

theorem es_range (es : List (Int × Int)) : es = (List.range es.length).map fun i => (eA es i, eB es i) := by
  refine List.ext_getElem (by simp) fun i h1 h2 => ?_
  simp only [List.getElem_map, List.getElem_range]
  rw [eA_lt h1, eB_lt h1]

/-- An edge has none of some vertices; its ends with the numbers that are left, from f on. -/
def outQ (xs : List Int) (e : Int × Int) : Bool := !decide (e.1 ∈ xs) && !decide (e.2 ∈ xs)
def outM (f : Int) (xs : List Int) (e : Int × Int) : Int × Int := (f + numW e.1 xs xs.length, f + numW e.2 xs xs.length)
/-- The edges that are left, of the first k ones, with numbers from f on. -/
def mdU (f : Int) (es : List (Int × Int)) (xs : List Int) (k : Nat) : List (Int × Int) := ((List.range k).filter (outG es xs)).map fun i => (f + numW (eA es i) xs xs.length, f + numW (eB es i) xs xs.length)
theorem mdU_yes {f : Int} {es : List (Int × Int)} {xs : List Int} {k : Nat} (h : outG es xs k = true) : mdU f es xs (k + 1) = mdU f es xs k ++ [(f + numW (eA es k) xs xs.length, f + numW (eB es k) xs xs.length)] := by
  unfold mdU
  rw [List.range_succ, List.filter_append, List.map_append]
  simp [h]
theorem mdU_no {f : Int} {es : List (Int × Int)} {xs : List Int} {k : Nat} (h : outG es xs k = false) : mdU f es xs (k + 1) = mdU f es xs k := by
  unfold mdU
  rw [List.range_succ, List.filter_append, List.map_append]
  simp [h]
theorem mdU_len (f : Int) (es : List (Int × Int)) (xs : List Int) (k : Nat) : (mdU f es xs k).length ≤ k := by
  unfold mdU
  rw [List.length_map]
  exact Nat.le_trans (List.length_filter_le _ _) (by simp)
theorem mdU_flat (f : Int) (es : List (Int × Int)) (xs : List Int) : mdU f es xs es.length = (es.filter (outQ xs)).map (outM f xs) := by
  conv => rhs; rw [es_range es]
  rw [List.filter_map, List.map_map]
  rfl
theorem outU_md (es : List (Int × Int)) (xs : List Int) (k : Nat) : outU es xs k = mdU 0 es xs k := by
  unfold outU mdU
  refine List.map_congr_left fun i _ => ?_
  rw [Int.zero_add, Int.zero_add]
theorem outU_flat (es : List (Int × Int)) (xs : List Int) : outU es xs es.length = (es.filter (outQ xs)).map (outM 0 xs) := by
  rw [outU_md, mdU_flat]

/-- The other ends of the edges at a vertex. -/
def endsF (es : List (Int × Int)) (v : Int) : List Int := (onL es v).map (othE es v)
theorem isG_pos {s : Int} {es : List (Int × Int)} (g : IsG s es) {i : Nat} (hi : i < es.length) : 0 ≤ eA es i ∧ eA es i < s ∧ 0 ≤ eB es i ∧ eB es i < s ∧ eA es i ≠ eB es i := g.1.2 i hi
theorem endsF_three {s : Int} {es : List (Int × Int)} (g : IsG s es) {v : Int} (h0 : 0 ≤ v) (hv : v < s) : (endsF es v).length = 3 := by
  have h := atF_three g h0 hv
  rw [onL_at] at h
  unfold endsF
  rw [List.length_map] at h ⊢
  exact h
theorem endsF_in {s : Int} {es : List (Int × Int)} (g : IsG s es) {v : Int} {x : Int} (hx : x ∈ endsF es v) : 0 ≤ x ∧ x < s ∧ x ≠ v := by
  unfold endsF at hx
  rw [List.mem_map] at hx
  obtain ⟨e, he, rfl⟩ := hx
  obtain ⟨h1, h2⟩ := onL_mem.1 he
  have h3 := isG_pos g h1
  unfold onE at h2
  unfold othE
  have h4 : eA es e = v ∨ eB es e = v := by simpa using h2
  omega
/-- The ends without an edge that no graph has. -/
theorem endL_none {es : List (Int × Int)} (hne : ∀ i, i < es.length → eA es i ≠ eB es i) (v : Int) : endL es 0 0 (arF es v) = endsF es v := by
  have h : ∀ p, p ∈ arF es v → keepE es 0 0 p.1 = true ∧ p.2 = othE es v p.1 := fun p hp => by
    unfold arF arU at hp
    rw [List.mem_map] at hp
    obtain ⟨e, he, rfl⟩ := hp
    rw [List.mem_filter, List.mem_range] at he
    refine ⟨?_, across_oth he.2⟩
    unfold keepE
    have := hne e he.1
    by_cases h0 : eA es e = 0
    · have h1 : ¬ eB es e = 0 := fun h => this (h0.trans h.symm)
      simp [h1]
    · simp [h0]
  unfold endL endsF
  rw [List.filter_eq_self.2 fun p hp => (h p hp).1, ← arF_onL, List.map_map]
  exact List.map_congr_left fun p hp => (h p hp).2

theorem onE_beside {s : Int} {xs ys : List (Int × Int)} (v : Int) (i : Nat) : (i < xs.length → onE (xs ++ upE s ys) v i = onE xs v i ∧ ∀ u, othE (xs ++ upE s ys) u i = othE xs u i) ∧ (i < ys.length → onE (xs ++ upE s ys) (s + v) (xs.length + i) = onE ys v i ∧ othE (xs ++ upE s ys) (s + v) (xs.length + i) = s + othE ys v i) := by
  constructor
  · intro h
    have := (eAB_append xs (upE s ys) i).1 h
    unfold onE othE
    rw [this.1, this.2]
    exact ⟨rfl, fun _ => rfl⟩
  · intro h
    have h1 := (eAB_append xs (upE s ys) (xs.length + i)).2 (by omega)
    have h2 := upE_at (s := s) h
    rw [show xs.length + i - xs.length = i by omega] at h1
    unfold onE othE
    rw [h1.1, h1.2, h2.1, h2.2]
    refine ⟨?_, by omega⟩
    have e1 : (eA ys i + s == s + v) = (eA ys i == v) := by rw [Bool.eq_iff_iff]; simp only [beq_iff_eq]; omega
    have e2 : (eB ys i + s == s + v) = (eB ys i == v) := by rw [Bool.eq_iff_iff]; simp only [beq_iff_eq]; omega
    rw [e1, e2]
theorem onE_far {s : Int} {es : List (Int × Int)} {v : Int} {i : Nat} (h : 0 ≤ eA es i ∧ eA es i < s ∧ 0 ≤ eB es i ∧ eB es i < s) (hv : ¬ (0 ≤ v ∧ v < s)) : onE es v i = false := by
  unfold onE
  have e1 : (eA es i == v) = false := by rw [beq_eq_false_iff_ne]; omega
  have e2 : (eB es i == v) = false := by rw [beq_eq_false_iff_ne]; omega
  rw [e1, e2]; rfl
theorem range_split (n m : Nat) : List.range (n + m) = List.range n ++ (List.range m).map (n + ·) := by
  rw [List.range_add]
theorem endsF_beside {s t : Int} {xs ys : List (Int × Int)} (g1 : IsG s xs) (g2 : IsG t ys) {v w : Int} (hv : 0 ≤ v ∧ v < s) (hw : 0 ≤ w ∧ w < t) :
    endsF (xs ++ upE s ys) v = endsF xs v ∧ endsF (xs ++ upE s ys) (s + w) = (endsF ys w).map (s + ·) := by
  unfold endsF onL
  rw [List.length_append, upE_length, range_split, List.filter_append, List.filter_append, List.filter_map, List.filter_map]
  constructor
  · have a1 : (List.range xs.length).filter (onE (xs ++ upE s ys) v) = (List.range xs.length).filter (onE xs v) :=
      List.filter_congr fun i hi => ((onE_beside v i).1 (List.mem_range.1 hi)).1
    have a2 : (List.range ys.length).filter ((onE (xs ++ upE s ys) v) ∘ (xs.length + ·)) = [] := by
      rw [List.filter_eq_nil_iff]
      intro i hi h
      have hi := List.mem_range.1 hi
      have h1 := ((onE_beside (s := s) (xs := xs) (v - s) i).2 hi).1
      rw [show s + (v - s) = v by omega] at h1
      have h2 := isG_pos g2 hi
      have h3 : onE ys (v - s) i = false := onE_far (s := t) (by omega) (by omega)
      rw [h3] at h1
      exact absurd (h.symm.trans h1) (by simp)
    rw [a1, a2, List.map_nil, List.append_nil]
    refine List.map_congr_left fun i hi => ?_
    exact ((onE_beside v i).1 (List.mem_range.1 (List.mem_filter.1 hi).1)).2 v
  · have a1 : (List.range xs.length).filter (onE (xs ++ upE s ys) (s + w)) = [] := by
      rw [List.filter_eq_nil_iff]
      intro i hi h
      have hi := List.mem_range.1 hi
      have h1 := ((onE_beside (s := s) (ys := ys) (s + w) i).1 hi).1
      have h2 := isG_pos g1 hi
      have h3 : onE xs (s + w) i = false := onE_far (s := s) (by omega) (by omega)
      rw [h3] at h1
      exact absurd (h.symm.trans h1) (by simp)
    have a2 : (List.range ys.length).filter ((onE (xs ++ upE s ys) (s + w)) ∘ (xs.length + ·)) = (List.range ys.length).filter (onE ys w) :=
      List.filter_congr fun i hi => ((onE_beside w i).2 (List.mem_range.1 hi)).1
    rw [a1, a2, List.nil_append, List.map_map, List.map_map]
    refine List.map_congr_left fun i hi => ?_
    exact ((onE_beside w i).2 (List.mem_range.1 (List.mem_filter.1 hi).1)).2

theorem numW_one (v a : Int) : numW a [v] 1 = a - (if v < a then 1 else 0) := by
  unfold numW
  by_cases h : v < a <;> simp [h]
theorem numW_two (v u a : Int) : numW a [v, u] 2 = a - (if v < a then 1 else 0) - (if u < a then 1 else 0) := by
  unfold numW
  by_cases h : v < a <;> by_cases h2 : u < a <;> simp [h, h2] <;> omega

/-- The star product's edges as the model makes them. -/
def starM (s : Int) (xs : List (Int × Int)) (v : Int) (ys : List (Int × Int)) (w : Int) : List (Int × Int) :=
  mdU 0 xs [v] xs.length ++ mdU (s - 1) ys [w] ys.length ++ (List.range 3).map fun i => (numW (eI (endsF xs v) i) [v] 1, (s - 1) + numW (eI (endsF ys w) i) [w] 1)
/-- And as the program puts them together, before it takes the vertices out. -/
def starP (s : Int) (xs : List (Int × Int)) (v : Int) (ys : List (Int × Int)) (w : Int) : List (Int × Int) :=
  (xs ++ upE s ys) ++ pairL (endsF xs v) ((endsF ys w).map (s + ·)) 3
theorem starP_len (s : Int) (xs : List (Int × Int)) (v : Int) (ys : List (Int × Int)) (w : Int) : (starP s xs v ys w).length = xs.length + ys.length + 3 := by
  unfold starP
  rw [List.length_append, List.length_append, upE_length, pairL_len]

theorem star_same {s t : Int} {xs ys : List (Int × Int)} (g1 : IsG s xs) (g2 : IsG t ys) {v w : Int} (hv : 0 ≤ v ∧ v < s) (hw : 0 ≤ w ∧ w < t) :
    outU (starP s xs v ys w) [v, s + w] (starP s xs v ys w).length = starM s xs v ys w := by
  rw [outU_flat]
  unfold starP starM
  rw [List.filter_append, List.filter_append, List.map_append, List.map_append, mdU_flat, mdU_flat]
  have m1 : ∀ e, e ∈ xs → 0 ≤ e.1 ∧ e.1 < s ∧ 0 ≤ e.2 ∧ e.2 < s := fun e he => by
    obtain ⟨i, hi, rfl⟩ := List.getElem_of_mem he
    have := isG_pos g1 hi
    rw [eA_lt hi, eB_lt hi] at this
    omega
  have m2 : ∀ e, e ∈ ys → 0 ≤ e.1 ∧ e.1 < t ∧ 0 ≤ e.2 ∧ e.2 < t := fun e he => by
    obtain ⟨i, hi, rfl⟩ := List.getElem_of_mem he
    have := isG_pos g2 hi
    rw [eA_lt hi, eB_lt hi] at this
    omega
  have l1 := endsF_three g1 hv.1 hv.2
  have l2 := endsF_three g2 hw.1 hw.2
  have i1 : ∀ i, i < 3 → 0 ≤ eI (endsF xs v) i ∧ eI (endsF xs v) i < s ∧ eI (endsF xs v) i ≠ v := fun i hi => by
    rw [eI_lt (by omega)]
    exact endsF_in g1 (List.getElem_mem _)
  have i2 : ∀ i, i < 3 → 0 ≤ eI (endsF ys w) i ∧ eI (endsF ys w) i < t ∧ eI (endsF ys w) i ≠ w := fun i hi => by
    rw [eI_lt (by omega)]
    exact endsF_in g2 (List.getElem_mem _)
  congr 1
  · congr 1
    · have f1 : xs.filter (outQ [v, s + w]) = xs.filter (outQ [v]) := List.filter_congr fun e he => by
        have := m1 e he
        have n1 : ¬ e.1 = s + w := by omega
        have n2 : ¬ e.2 = s + w := by omega
        unfold outQ
        simp [n1, n2]
      rw [f1]
      refine List.map_congr_left fun e he => ?_
      have := m1 e (List.mem_filter.1 he).1
      unfold outM
      simp only [List.length_cons, List.length_nil, Nat.zero_add, Nat.reduceAdd]
      rw [numW_one, numW_one, numW_two, numW_two, if_neg (show ¬ s + w < e.1 by omega), if_neg (show ¬ s + w < e.2 by omega), Int.sub_zero, Int.sub_zero]
    · unfold upE
      rw [List.filter_map, List.map_map]
      have f1 : ys.filter (outQ [v, s + w] ∘ fun e => (e.1 + s, e.2 + s)) = ys.filter (outQ [w]) := List.filter_congr fun e he => by
        have := m2 e he
        have n1 : ¬ e.1 + s = v := by omega
        have n2 : ¬ e.2 + s = v := by omega
        have n3 : (e.1 + s = s + w) = (e.1 = w) := propext (by omega)
        have n4 : (e.2 + s = s + w) = (e.2 = w) := propext (by omega)
        unfold outQ
        simp [n1, n2, n3, n4]
      rw [f1]
      refine List.map_congr_left fun e he => ?_
      have := m2 e (List.mem_filter.1 he).1
      show outM 0 [v, s + w] (e.1 + s, e.2 + s) = _
      unfold outM
      simp only [List.length_cons, List.length_nil, Nat.zero_add, Nat.reduceAdd]
      rw [numW_one, numW_one, numW_two, numW_two, if_pos (show v < e.1 + s by omega), if_pos (show v < e.2 + s by omega)]
      have n3 : (s + w < e.1 + s) = (w < e.1) := propext (by omega)
      have n4 : (s + w < e.2 + s) = (w < e.2) := propext (by omega)
      simp only [n3, n4]
      refine Prod.ext ?_ ?_ <;> dsimp only <;> omega
  · have f1 : (pairL (endsF xs v) ((endsF ys w).map (s + ·)) 3).filter (outQ [v, s + w]) = pairL (endsF xs v) ((endsF ys w).map (s + ·)) 3 := by
      rw [List.filter_eq_self]
      intro e he
      unfold pairL at he
      rw [List.mem_map] at he
      obtain ⟨i, hi, rfl⟩ := he
      have hi := List.mem_range.1 hi
      have h1 := i1 i hi
      have h2 := i2 i hi
      have h3 : eI ((endsF ys w).map (s + ·)) i = s + eI (endsF ys w) i := by
        rw [eI_lt (by rw [List.length_map]; omega), eI_lt (by omega), List.getElem_map]
      have n1 : ¬ eI (endsF xs v) i = v := by omega
      have n2 : ¬ eI (endsF xs v) i = s + w := by omega
      have n3 : ¬ s + eI (endsF ys w) i = v := by omega
      have n4 : ¬ s + eI (endsF ys w) i = s + w := by omega
      unfold outQ
      simp only [h3]
      simp [n1, n2, n3]
      omega
    rw [f1]
    unfold pairL
    rw [List.map_map]
    refine List.map_congr_left fun i hi => ?_
    have hi := List.mem_range.1 hi
    have h1 := i1 i hi
    have h2 := i2 i hi
    have h3 : eI ((endsF ys w).map (s + ·)) i = s + eI (endsF ys w) i := by
      rw [eI_lt (by rw [List.length_map]; omega), eI_lt (by omega), List.getElem_map]
    show outM 0 [v, s + w] (eI (endsF xs v) i, eI ((endsF ys w).map (s + ·)) i) = _
    unfold outM
    simp only [List.length_cons, List.length_nil, Nat.zero_add, Nat.reduceAdd, h3]
    rw [numW_one, numW_one, numW_two, numW_two, if_neg (show ¬ s + w < eI (endsF xs v) i by omega), if_pos (show v < s + eI (endsF ys w) i by omega)]
    have n3 : (s + w < s + eI (endsF ys w) i) = (w < eI (endsF ys w) i) := propext (by omega)
    simp only [n3]
    refine Prod.ext ?_ ?_ <;> dsimp only <;> omega

end Go.Proofs.Ytfdlhdgmbjdhbaa
