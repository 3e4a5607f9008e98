/- The numbers of edges between vertices, in the model: l10Rows. -/
import Derived.Test.YtbimllpfbgjajaaLdA
import Derived.Test.YtbimllpfbgjajaaZrT
import Derived.BigRegion
import Derived.BigQuiet
namespace Go.Proofs.Ytbimllpfbgjajaa
open Go.RowKit

attribute [local go_sem] Oper.semAt_some

theorem adjC_zero (es : List (Int × Int)) (v w : Int) : adjC (es.take 0) v w = 0 := rfl
theorem adjC_le (es : List (Int × Int)) (v w : Int) : adjC es v w ≤ es.length := by
  unfold adjC
  have := List.count_le_length (a := normE (v, w)) (l := es.map normE)
  rwa [List.length_map] at this
theorem adjC_few (es : List (Int × Int)) (m : Nat) (v w : Int) (h : es.length ≤ 30) : adjC (es.take m) v w ≤ 30 := by
  have h1 := adjC_le (es.take m) v w
  rw [List.length_take] at h1
  omega

/-- A matrix in memory with the numbers of edges between vertices. -/
def RowsAt (B : Nat) (W : World) (N : Nat) (es : List (Int × Int)) (v : Value) : Prop := ∃ gq cap gf cf, v = .slice (some ⟨gq, 0, none⟩) N cap ∧ B ≤ gq ∧ MatAt W B N gq gf cf (fun k l => (adjC es k l : Int))

set_option maxRecDepth 100000 in
set_option maxHeartbeats 16000000 in
theorem sRows_any (N b off n c : Nat) (es : List (Int × Int)) (w : World) (hn : es.length = n) (hr : ReadsE w b off es) (g : IsG N es) :
    Calls Try.prog 64 #[.agg #[.int .i64 N, .slice (some ⟨b, off, none⟩) n c]] w fun e w' => ∃ v, e = .returned v ∧ RowsAt w.heap.size w' N es v ∧ Below w.heap.size w w' := by
  have hN20 : N ≤ 20 := by have := g.1.1.2.1; omega
  have hN2 : 2 ≤ N := by have := g.1.1.1; omega
  have hn30 : n ≤ 30 := by have := isG_len g; omega
  have hN0 : 0 < N := by omega
  have Hn := hid hn
  have Hr := hid hr
  have G := hid g
  have hbw0 := reads_lt hr (by have := g.1.1.2.2.2; omega)
  obtain ⟨i0, hi, hz0, hz1, hz2⟩ := info_parts infoInt
  have Hi := hid hi
  obtain ⟨s0, hsi, hs0, hs1, hs2⟩ := info_parts infoSlN
  have Hs := hid hsi
  clear hn hr g hi hsi
  go_enter Try.func64, Try.ntmps64
  go_wp2
  have hX := Box.new w N (some ⟨b, off, none⟩) n c 30
  have hB1 : Below w.heap.size w (w.alloc (.cells #[.int .i64 (N : Int), .slice (some ⟨b, off, none⟩) n c] 30)) := on_alloc _ _
  have hs : (w.alloc (.cells #[.int .i64 (N : Int), .slice (some ⟨b, off, none⟩) n c] 30)).heap.size = w.heap.size + 1 := by simp
  obtain ⟨w1, hw1⟩ : ∃ w1, w.alloc (.cells #[.int .i64 (N : Int), .slice (some ⟨b, off, none⟩) n c] 30) = w1 := ⟨_, rfl⟩
  rw [hw1] at hX hB1 hs ⊢
  clear hw1
  have HX := hid hX
  have HB1 := hid hB1
  have hrow0 : (w1.alloc (.cells #[] 34)).ownsRow (w.heap.size + 1) 34 1 (.slice (some ⟨w.heap.size + 1, 0, none⟩) 0 0) 0 [] := by
    have h := World.ownsRow_made (base := w1.heap.size) (e := 34) (size := 1) w1 #[] 0 (Nat.le_refl _) (Nat.zero_le _) rfl
    rwa [hs] at h
  have HR0 := hid hrow0
  have Hs1 := hid hs
  clear hrow0 hX hB1 hs
  have hb0 : Below (w.heap.size + 1) w1 (w1.alloc (.cells #[] 34)) := by have h := on_alloc w1 (.cells #[] 34); rwa [Hs1.out] at h
  have Hb0 := hid hb0
  clear hb0
  go_loopw [3, 4] (fun u v wr => ∃ (K cap : Nat) (q : Option Addr) (gf cf : Nat → Nat), K ≤ N ∧ u = .slice q K cap ∧ v = .int .i64 K ∧ Hid (wr.ownsRow (w.heap.size + 1) 34 1 (.slice q K cap) K (rowsN N gf cf K)) ∧ Hid (ZrT wr (w.heap.size + 1) N K gf cf) ∧ Hid (Below (w.heap.size + 1) w1 wr)) (fun _ v _ => N - (intOf v).toNat)
  case atStart => exact ⟨0, 0, some ⟨w.heap.size + 1, 0, none⟩, fun _ => 0, fun _ => 0, Nat.zero_le _, rfl, rfl, HR0, hid ⟨fun i hi => absurd hi (by omega), fun i k hi => absurd hi (by omega)⟩, Hb0⟩
  case round =>
    obtain ⟨K, cap, q, gf, cf, hK, rfl, rfl, hRw, hZ, hB⟩ := hrel
    have hBs : w.heap.size + 1 ≤ wr.heap.size := by have := hB.out.size; have := Hs1.out; omega
    have hx := (HX.out.on (by have h := hB.out; rwa [← Hs1.out] at h)).1
    have hy := (HX.out.on (by have h := hB.out; rwa [← Hs1.out] at h)).2
    have hxl := World.block_lt_of_cell? wr _ hx
    by_cases hlt : K < N
    · have hlt' : (K : Int) < (N : Int) := by omega
      obtain ⟨wi, rfl⟩ : ∃ wi : World, wi = wr := ⟨_, rfl⟩
      have hK19 : K + 1 ≤ 20 := by omega
      go_wp2_with (first
        | (at_make; refine wpList_make_full _ rfl _ _ 34 rfl wi.heap.size 2 i0 (.int .i64 0) 1 Try.underlying34 Hi.out hz0 hz1 _ _ _ _ N rfl rfl rfl rfl (by rw [hz2]; omega) (by unfold maxLen; omega) (Nat.le_refl _) ?_; intro w3 hown hgrow; have Ho := hid (OwnI.made hown); have Hb3 := hid ((Below.refl wi.heap.size wi).grown hgrow (Nat.le_refl _) (fun k e => by cases e)); have hz3 := Hb3.out.size; clear hown hgrow)
        | (at_builtin; go_must (refine wpList_append_lies _ rfl (.tmp 15) (.tmp 19) 55 rfl (w.heap.size + 1) 34 s0 (.slice none 0 0) 1 24 Try.underlying55 Hs.out hs0 hs1 hs2 rfl (by decide) (.slice q K cap) K (rowsN N gf cf K) rfl (rowN_same hRw.out (fun k' _ _ _ _ h2 => ((on_alloc w3 _).block k' (by have := (Array.getElem?_eq_some_iff.1 h2).1; omega)).trans (Hb3.out.block k' (Array.getElem?_eq_some_iff.1 h2).1))) ⟨w3.heap.size, 0, none⟩ 1 1 [.slice (some ⟨wi.heap.size, 0, none⟩) N N] rfl rfl (World.news_of_block (cs := #[.slice (some ⟨wi.heap.size, 0, none⟩) N N]) (t := 34) (fr := (0, 0)) (heap_alloc_new _ _)) (by simp [Value.oneCell']) (by decide) (by unfold maxLen; omega) (by omega) (by simp; omega) (w3.heap.size + 1) (by simp) ?_); intro g8 cap8 w8 hown8 hgrow8 hlie8 hg8; have Hown8 := hid hown8; have Hgrow8 := hid hgrow8; clear hown8 hgrow8 hlie8))
      go_roundw
      case rel =>
        obtain ⟨p1, p2⟩ := zr_push hRw.out hZ.out hBs Ho.out (Nat.le_refl _) Hb3.out (on_alloc _ _) Hown8.out Hgrow8.out
        exact ⟨K + 1, cap8, some ⟨g8, 0, none⟩, updN gf K wi.heap.size, updN cf K N, by omega, rfl, by go_num, hid p1, hid p2, hid (by
          have h0 : Below w1.heap.size w1 wi := by have h := hB.out; rwa [← Hs1.out] at h
          have h := ((bfrom h0 Hb3.out).alloc (by have := Hb3.out.size; have := Hs1.out; omega) _).grown Hgrow8.out (by simp; have := Hs1.out; omega) (fun k e => by have := (hRw.out.lt k e).1; have := Hs1.out; omega)
          rwa [Hs1.out] at h)⟩
      case measure => simp [intOf]; omega
    · obtain rfl : K = N := by omega
      obtain ⟨gq, rfl, hMat⟩ := zr_mat hRw.out hZ.out hN0
      have hgq : w.heap.size + 1 ≤ gq := by
        have h := hRw.out.lt gq rfl
        exact h.1
      have HMat := hid hMat
      clear hMat
      obtain ⟨wi, rfl⟩ : ∃ wi : World, wi = wr := ⟨_, rfl⟩
      go_wp2
      go_loopw [5] (fun v wx => ∃ m : Nat, m ≤ n ∧ v = .int .i64 m ∧ Hid (MatAt wx (w.heap.size + 1) K gq gf cf (fun k l => (adjC (es.take m) k l : Int))) ∧ Hid (Below (w.heap.size + 1) w1 wx)) (fun v _ => n - (intOf v).toNat)
      case atStart => exact ⟨0, Nat.zero_le _, rfl, hid (HMat.out.ext fun k l _ _ => rfl), hB⟩
      case round =>
        clear hx hy hxl
        obtain ⟨m, hm, rfl, hMm, hBm⟩ := hrel
        have hBs : w.heap.size + 1 ≤ wr.heap.size := by have := hBm.out.size; have := Hs1.out; omega
        have hx := (HX.out.on (by have h := hBm.out; rwa [← Hs1.out] at h)).1
        have hy := (HX.out.on (by have h := hBm.out; rwa [← Hs1.out] at h)).2
        have hxl := World.block_lt_of_cell? wr _ hx
        have HBw := hid (show Below w.heap.size w wr from HB1.out.trans (hBm.out.mono (by omega)))
        by_cases hlm : m < n
        · have hlm' : (m : Int) < (n : Int) := by omega
          have hml : m < es.length := by rw [Hn.out]; exact hlm
          have hok := G.out.1.2 m hml
          unfold okEdge at hok
          obtain ⟨X, hX⟩ : ∃ X : Nat, eA es m = X := ⟨_, (Int.toNat_of_nonneg hok.1).symm⟩
          obtain ⟨Y, hY⟩ : ∃ Y : Nat, eB es m = Y := ⟨_, (Int.toNat_of_nonneg hok.2.2.1).symm⟩
          have hc1 := (Hr.out.on HBw.out m hml).1
          have hc2 := (Hr.out.on HBw.out m hml).2
          rw [hX] at hc1
          rw [hY] at hc2
          have hbw := World.block_lt_of_cell? wr _ hc1
          have hXK : X < K := by omega
          have hYK : Y < K := by omega
          have hXK' : (X : Int) < (K : Int) := by omega
          have hYK' : (Y : Int) < (K : Int) := by omega
          have hXY : X ≠ Y := by omega
          have hst := fun k l : Nat => adjC_step hml (k : Int) (l : Int)
          rw [hX, hY] at hst
          have HSt := hid hst
          have hoX := hMm.out.out X hXK
          have hoY := hMm.out.out Y hYK
          have hcXY := hMm.out.cell hXK hYK
          have hcYX := hMm.out.cell hYK hXK
          obtain ⟨a, ha⟩ : ∃ a, adjC (es.take m) (X : Int) (Y : Int) = a := ⟨_, rfl⟩
          obtain ⟨d, hd⟩ : ∃ d, adjC (es.take m) (Y : Int) (X : Int) = d := ⟨_, rfl⟩
          have ha30 := adjC_few es m X Y (by rw [Hn.out]; omega)
          have hd30 := adjC_few es m Y X (by rw [Hn.out]; omega)
          rw [ha] at hcXY ha30
          rw [hd] at hcYX hd30
          have HA := hid ha
          have HD := hid hd
          have hfX := (hMm.out.row X hXK).free Y
          have hfY := (hMm.out.row Y hYK).free X
          have hgX := World.block_lt_of_cell? wr _ hcXY
          have hgY := World.block_lt_of_cell? wr _ hcYX
          have hgo := World.block_lt_of_cell? wr _ hoX
          have hgg := hMm.out.one X Y hXK hYK hXY
          have hgg' : gf Y ≠ gf X := fun e => hgg e.symm
          have hb1 : b ≠ gf X := by have := (hMm.out.far X hXK).1; omega
          have hb2 : w.heap.size ≠ gf X := by have := (hMm.out.far X hXK).1; omega
          have HMn := hid (show ∀ W : World, W.heap = wr.heap → MatAt ((W.setCell ⟨gf X, Y, none⟩ (.int .i64 ((a : Int) + 1))).setCell ⟨gf Y, X, none⟩ (.int .i64 ((d : Int) + 1))) (w.heap.size + 1) K gq gf cf (fun k l => (adjC (es.take (m + 1)) k l : Int)) from fun W hW => (((hMm.out.same hW).set hXK hYK ((a : Int) + 1)).set hYK hXK ((d : Int) + 1)).ext fun k l _ _ => by
            rw [HSt.out k l]
            by_cases e1 : k = Y ∧ l = X
            · obtain ⟨rfl, rfl⟩ := e1
              rw [if_pos ⟨rfl, rfl⟩, if_pos (.inr ⟨rfl, rfl⟩), HD.out]
              omega
            · rw [if_neg e1]
              by_cases e2 : k = X ∧ l = Y
              · obtain ⟨rfl, rfl⟩ := e2
                rw [if_pos ⟨rfl, rfl⟩, if_pos (.inl ⟨rfl, rfl⟩), HA.out]
                omega
              · rw [if_neg e2, if_neg (by omega)]
                omega)
          have HBn := hid (show ∀ v1 v2, Below (w.heap.size + 1) w1 ((wr.setCell ⟨gf X, Y, none⟩ v1).setCell ⟨gf Y, X, none⟩ v2) from fun v1 v2 => (hBm.out.setCell (p := ⟨gf X, Y, none⟩) (hMm.out.far X hXK).1 v1).setCell (p := ⟨gf Y, X, none⟩) (hMm.out.far Y hYK).1 v2)
          have e1 : IntKind.i64.wrap ((a : Int) + 1) = (a : Int) + 1 := IntWalk.i64_in _ (by omega)
          have e2 : IntKind.i64.wrap ((d : Int) + 1) = (d : Int) + 1 := IntWalk.i64_in _ (by omega)
          clear hok hst ha hd hX hY
          obtain ⟨wj, rfl⟩ : ∃ wj : World, wj = wr := ⟨_, rfl⟩
          go_wp2
          go_region
          go_wp2
          go_roundw
          case rel =>
            exact ⟨m + 1, by omega, by go_num, hid (by first | exact HMn.out wj.drew rfl | exact HMn.out wj rfl | exact (HMn.out wj rfl).same rfl), hid (by first | exact (HBn.out _ _).drew | exact HBn.out _ _ | exact bdn.mpr (HBn.out _ _))⟩
          case measure => simp [intOf]; omega
        · obtain rfl : m = n := by omega
          go_wp2
          go_ret
          have hM := hMm.out
          rw [List.take_of_length_le (by rw [Hn.out]; exact Nat.le_refl _)] at hM
          exact ⟨_, rfl, ⟨gq, cap, gf, cf, rfl, by omega, ⟨hM.out, hM.row, fun i hi => ⟨by have := (hM.far i hi).1; omega, (hM.far i hi).2⟩, hM.one⟩⟩, HBw.out⟩

end Go.Proofs.Ytbimllpfbgjajaa
