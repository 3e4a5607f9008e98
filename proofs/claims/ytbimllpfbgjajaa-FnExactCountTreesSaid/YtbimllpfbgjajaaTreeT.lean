/- The spanning trees in the model: l09Trees. -/
import Derived.Test.YtbimllpfbgjajaaTreeC
import Derived.Test.YtbimllpfbgjajaaZrT
import Derived.Test.YtbimllpfbgjajaaTreeS
import Derived.Test.YtbimllpfbgjajaaRowsM
import Derived.Test.YtbimllpfbgjajaaChnA
import Derived.Deep.AppendLies
import Derived.Deep.DeepMust
import Derived.BigQuiet
import Derived.BigRegion
namespace Go.Proofs.Ytbimllpfbgjajaa
open Go.RowKit

attribute [local go_sem] Oper.semAt_some

theorem accT_small {es : List (Int × Int)} {m : Nat} (hm : m ≤ 30) (k l : Nat) : -30 ≤ accT es m k l ∧ accT es m k l ≤ 30 := by
  unfold accT
  split
  · have := List.length_filter_le (onE es ((k : Int) + 1)) (List.range m)
    rw [List.length_range] at this
    omega
  · have := List.length_filter_le (fun e => onE es ((k : Int) + 1) e && othE es ((k : Int) + 1) e == (l : Int) + 1) (List.range m)
    rw [List.length_range] at this
    omega

set_option maxRecDepth 100000 in
set_option maxHeartbeats 16000000 in
theorem sTrees_any (N b off n c : Nat) (es : List (Int × Int)) (w : World) (hn : es.length = n) (hr : ReadsE w b off es) (g : IsG N es) :
    Calls Try.prog 61 #[.int .i64 N, .slice (some ⟨b, off, none⟩) n c] w fun e w' => e = .returned (.int .i64 (detT (N - 1) (N - 1) 1 (matT es))) ∧ Below w.heap.size w w' := by
  have hN20 : N ≤ 20 := by have := g.1.1.2.1; omega
  have hN2 : 2 ≤ N := by have := g.1.1.1; omega
  have hn30 : n ≤ 30 := by have := isG_len g; omega
  have Hn := hid hn
  have Hr := hid hr
  have G := hid g
  obtain ⟨D, hD⟩ : ∃ D, detT (N - 1) (N - 1) 1 (matT es) = D := ⟨_, rfl⟩
  have HD := hid hD
  rw [hD]
  obtain ⟨i0, hi, hz0, hz1, hz2⟩ := info_parts infoInt
  have Hi := hid hi
  obtain ⟨s0, hsi, hs0, hs1, hs2⟩ := info_parts infoSlN
  have Hs := hid hsi
  obtain ⟨M, hM⟩ : ∃ M, N = M + 1 := ⟨N - 1, by omega⟩
  have hM1 : N - 1 = M := by omega
  rw [hM1] at HD
  have HM := hid hM
  subst hM
  have hM0 : 0 < M := by omega
  have hsubM : ((M + 1 : Nat) : Int) - 1 = (M : Int) := by omega
  clear hn hr g hD hi hsi hM1
  go_enter Try.func61, Try.ntmps61
  go_wp2
  have hrow0 : (w.alloc (.cells #[] 34)).ownsRow w.heap.size 34 1 (.slice (some ⟨w.heap.size, 0, none⟩) 0 0) 0 [] := World.ownsRow_made (base := w.heap.size) (e := 34) (size := 1) w #[] 0 (Nat.le_refl _) (Nat.zero_le _) rfl
  have HR0 := hid hrow0
  clear hrow0
  go_loopw [5, 6] (fun u v wr => ∃ (K cap : Nat) (q : Option Addr) (gf cf : Nat → Nat), K ≤ M ∧ u = .slice q K cap ∧ v = .int .i64 ((K + 1 : Nat) : Int) ∧ Hid (wr.ownsRow w.heap.size 34 1 (.slice q K cap) K (rowsN M gf cf K)) ∧ Hid (ZrT wr w.heap.size M K gf cf) ∧ Hid (Below w.heap.size w wr)) (fun _ v _ => M + 1 - (intOf v).toNat)
  case atStart => exact ⟨0, 0, some ⟨w.heap.size, 0, none⟩, fun _ => 0, fun _ => 0, Nat.zero_le _, rfl, rfl, HR0, hid ⟨fun i hi => absurd hi (by omega), fun i k hi => absurd hi (by omega)⟩, hid (on_alloc _ _)⟩
  case round =>
    obtain ⟨K, cap, q, gf, cf, hK, rfl, rfl, hRw, hZ, hB⟩ := hrel
    by_cases hlt : K < M
    · have hlt' : ((K + 1 : Nat) : Int) < ((M + 1 : Nat) : Int) := by omega
      obtain ⟨wi, rfl⟩ : ∃ wi : World, wi = wr := ⟨_, rfl⟩
      have hBs := hB.out.size
      have hK19 : K + 1 ≤ 19 := by omega
      go_wp2_with (first
        | (at_make; refine wpList_make_full _ rfl _ _ 34 rfl wi.heap.size 2 i0 (.int .i64 0) 1 Try.underlying34 Hi.out hz0 hz1 _ _ _ _ M rfl rfl rfl rfl (by rw [hz2]; omega) (by unfold maxLen; omega) (Nat.le_refl _) ?_; intro w3 hown hgrow; have Ho := hid (OwnI.made hown); have Hb3 := hid ((Below.refl wi.heap.size wi).grown hgrow (Nat.le_refl _) (fun k e => by cases e)); have hz3 := Hb3.out.size; clear hown hgrow)
        | (at_builtin; go_must (refine wpList_append_lies _ rfl (.tmp 18) (.tmp 22) 55 rfl w.heap.size 34 s0 (.slice none 0 0) 1 24 Try.underlying55 Hs.out hs0 hs1 hs2 rfl (by decide) (.slice q K cap) K (rowsN M gf cf K) rfl (rowN_same hRw.out (fun k' _ _ _ _ h2 => ((on_alloc w3 _).block k' (by have := (Array.getElem?_eq_some_iff.1 h2).1; omega)).trans (Hb3.out.block k' (Array.getElem?_eq_some_iff.1 h2).1))) ⟨w3.heap.size, 0, none⟩ 1 1 [.slice (some ⟨wi.heap.size, 0, none⟩) M M] rfl rfl (World.news_of_block (cs := #[.slice (some ⟨wi.heap.size, 0, none⟩) M M]) (t := 34) (fr := (0, 0)) (heap_alloc_new _ _)) (by simp [Value.oneCell']) (by decide) (by unfold maxLen; omega) (by omega) (by simp; omega) (w3.heap.size + 1) (by simp) ?_); intro g8 cap8 w8 hown8 hgrow8 hlie8 hg8; have Hown8 := hid hown8; have Hgrow8 := hid hgrow8; clear hown8 hgrow8 hlie8))
      go_roundw
      case rel =>
        obtain ⟨p1, p2⟩ := zr_push hRw.out hZ.out hBs Ho.out (Nat.le_refl _) Hb3.out (on_alloc _ _) Hown8.out Hgrow8.out
        exact ⟨K + 1, cap8, some ⟨g8, 0, none⟩, updN gf K wi.heap.size, updN cf K M, by omega, rfl, by go_num, hid p1, hid p2, hid (((bfrom hB.out Hb3.out).alloc (by have := Hb3.out.size; omega) _).grown Hgrow8.out (by simp; omega) (fun k e => (hRw.out.lt k e).1))⟩
      case measure => simp [intOf]; omega
    · obtain rfl : K = M := by omega
      obtain ⟨gq, rfl, hMat⟩ := zr_mat hRw.out hZ.out hM0
      have HMat := hid hMat
      clear hMat
      go_wp2
      go_loopw [7] (fun v wx => ∃ m : Nat, m ≤ n ∧ v = .int .i64 m ∧ Hid (MatAt wx w.heap.size K gq gf cf (accT es m)) ∧ Hid (Below w.heap.size w wx)) (fun v _ => n - (intOf v).toNat)
      case atStart => exact ⟨0, Nat.zero_le _, rfl, hid (HMat.out.ext fun k l _ _ => (accT_zero es k l).symm), hB⟩
      case round =>
        obtain ⟨m, hm, rfl, hMm, hBm⟩ := hrel
        by_cases hlm : m < n
        · have hlm' : (m : Int) < (n : Int) := by omega
          have hml : m < es.length := by rw [Hn.out]; exact hlm
          have hok := G.out.1.2 m hml
          have hle := (G.out.2.2 m hml).1
          unfold okEdge at hok
          obtain ⟨X, hX⟩ : ∃ X : Nat, eA es m = X := ⟨_, (Int.toNat_of_nonneg hok.1).symm⟩
          obtain ⟨Y, hY⟩ : ∃ Y : Nat, eB es m = Y + 1 := ⟨(eB es m).toNat - 1, by omega⟩
          have hc1 := (Hr.out.on hBm.out m hml).1
          have hc2 := (Hr.out.on hBm.out m hml).2
          rw [hX] at hc1
          rw [hY] at hc2
          have hbw := World.block_lt_of_cell? wr _ hc1
          have hYK : Y < K := by omega
          have hXY : X ≠ Y + 1 := by omega
          have hXK : X < K + 1 := by omega
          have hst := accT_step (es := es) (m := m) (X := X) (Y := Y + 1) hX (by rw [hY]; omega)
          have HSt := hid hst
          have hoY := hMm.out.out Y hYK
          have hcYY := hMm.out.cell hYK hYK
          obtain ⟨yy, hyy⟩ : ∃ yy, accT es m Y Y = yy := ⟨_, rfl⟩
          have hbyy := accT_small (es := es) (m := m) (by omega) Y Y
          rw [hyy] at hcYY hbyy
          have HYY := hid hyy
          have hfY := fun j => (hMm.out.row Y hYK).free j
          have hgY := World.block_lt_of_cell? wr _ hcYY
          have hgo := World.block_lt_of_cell? wr _ hoY
          clear hok hle hst hyy hX hY
          by_cases hX0 : X = 0
          · subst hX0
            have HMn := hid (show ∀ W : World, W.heap = wr.heap → MatAt (W.setCell ⟨gf Y, Y, none⟩ (.int .i64 (yy + 1))) w.heap.size K gq gf cf (accT es (m + 1)) from fun W hW => ((hMm.out.same hW).set hYK hYK (yy + 1)).ext fun k l _ _ => by
              rw [HSt.out k l]
              by_cases e : k = Y ∧ l = Y
              · obtain ⟨rfl, rfl⟩ := e
                rw [if_pos ⟨rfl, rfl⟩, if_pos rfl, if_pos (by omega), HYY.out]
              · rw [if_neg e]
                by_cases e2 : l = k
                · rw [if_pos e2, if_neg (by omega)]; omega
                · rw [if_neg e2, if_neg (by omega)]; omega)
            have HBn := hid (show ∀ v, Below w.heap.size w (wr.setCell ⟨gf Y, Y, none⟩ v) from fun v => hBm.out.setCell (p := ⟨gf Y, Y, none⟩) (hMm.out.far Y hYK).1 v)
            have hf1 := hfY Y
            obtain ⟨wj, rfl⟩ : ∃ wj : World, wj = wr := ⟨_, rfl⟩
            go_wp2
            go_region
            go_wp2
            go_roundw
            case rel =>
              refine ⟨_, _, _, _, _, _, _, _, _, _, _, _, _, _, _, _, _, _, _, _, _, _, _, _, _, _, _, _, _, _, _, _, _, _, _, _, _, _, _, _, _, _, _, _, _, _, _, _, _, _, _, _, _, _, _, _, _, _, _, _, _, _, _, ?_, rfl⟩
              exact ⟨m + 1, by omega, by go_num, hid (by first | exact HMn.out wj.drew rfl | exact HMn.out wj rfl | exact (HMn.out wj rfl).same rfl), hid (by first | exact (HBn.out _).drew | exact HBn.out _ | exact bdn.mpr (HBn.out _))⟩
            case measure => simp [intOf]; omega
          · obtain ⟨Z, rfl⟩ : ∃ Z, X = Z + 1 := ⟨X - 1, by omega⟩
            have hZK : Z < K := by omega
            have hZY : Z ≠ Y := by omega
            obtain ⟨zz, hzz⟩ : ∃ zz, accT es m Z Z = zz := ⟨_, rfl⟩
            obtain ⟨zy, hzy⟩ : ∃ zy, accT es m Z Y = zy := ⟨_, rfl⟩
            obtain ⟨yz, hyz⟩ : ∃ yz, accT es m Y Z = yz := ⟨_, rfl⟩
            have hbzz := accT_small (es := es) (m := m) (by omega) Z Z
            have hbzy := accT_small (es := es) (m := m) (by omega) Z Y
            have hbyz := accT_small (es := es) (m := m) (by omega) Y Z
            have hczz := hMm.out.cell hZK hZK
            have hczy := hMm.out.cell hZK hYK
            have hcyz := hMm.out.cell hYK hZK
            have hoZ := hMm.out.out Z hZK
            rw [hzz] at hczz hbzz
            rw [hzy] at hczy hbzy
            rw [hyz] at hcyz hbyz
            have HZZ := hid hzz
            have HZY := hid hzy
            have HYZ := hid hyz
            have hn1 : gf Z ≠ gf Y := hMm.out.one Z Y hZK hYK hZY
            have hn2 : gf Y ≠ gf Z := fun e => hn1 e.symm
            have hn3 : gq ≠ gf Z := fun e => (hMm.out.far Z hZK).2 e.symm
            have hn4 : gq ≠ gf Y := fun e => (hMm.out.far Y hYK).2 e.symm
            have hf1 := hfY Y
            have hf2 := hfY Z
            have hf3 := (hMm.out.row Z hZK).free Z
            have hf4 := (hMm.out.row Z hZK).free Y
            have hgZ := World.block_lt_of_cell? wr _ hczz
            have hYZ : Y ≠ Z := fun e => hZY e.symm
            have HMn := hid (show ∀ W : World, W.heap = wr.heap → MatAt ((((W.setCell ⟨gf Z, Z, none⟩ (.int .i64 (zz + 1))).setCell ⟨gf Z, Y, none⟩ (.int .i64 (zy - 1))).setCell ⟨gf Y, Y, none⟩ (.int .i64 (yy + 1))).setCell ⟨gf Y, Z, none⟩ (.int .i64 (yz - 1))) w.heap.size K gq gf cf (accT es (m + 1)) from fun W hW => (((((hMm.out.same hW).set hZK hZK (zz + 1)).set hZK hYK (zy - 1)).set hYK hYK (yy + 1)).set hYK hZK (yz - 1)).ext fun k l _ _ => by
              rw [HSt.out k l]
              by_cases e1 : k = Y ∧ l = Z
              · obtain ⟨rfl, rfl⟩ := e1
                rw [if_pos ⟨rfl, rfl⟩, if_neg hZY, if_pos (by omega), HYZ.out]
                omega
              · rw [if_neg e1]
                by_cases e2 : k = Y ∧ l = Y
                · obtain ⟨rfl, rfl⟩ := e2
                  rw [if_pos ⟨rfl, rfl⟩, if_pos rfl, if_pos (by omega), HYY.out]
                · rw [if_neg e2]
                  by_cases e3 : k = Z ∧ l = Y
                  · obtain ⟨rfl, rfl⟩ := e3
                    rw [if_pos ⟨rfl, rfl⟩, if_neg hYZ, if_pos (by omega), HZY.out]
                    omega
                  · rw [if_neg e3]
                    by_cases e4 : k = Z ∧ l = Z
                    · obtain ⟨rfl, rfl⟩ := e4
                      rw [if_pos ⟨rfl, rfl⟩, if_pos rfl, if_pos (by omega), HZZ.out]
                    · rw [if_neg e4]
                      by_cases e5 : l = k
                      · rw [if_pos e5, if_neg (by omega)]; omega
                      · rw [if_neg e5, if_neg (by omega)]; omega)
            have HBn := hid (show ∀ v1 v2 v3 v4, Below w.heap.size w ((((wr.setCell ⟨gf Z, Z, none⟩ v1).setCell ⟨gf Z, Y, none⟩ v2).setCell ⟨gf Y, Y, none⟩ v3).setCell ⟨gf Y, Z, none⟩ v4) from fun v1 v2 v3 v4 => (((hBm.out.setCell (p := ⟨gf Z, Z, none⟩) (hMm.out.far Z hZK).1 v1).setCell (p := ⟨gf Z, Y, none⟩) (hMm.out.far Z hZK).1 v2).setCell (p := ⟨gf Y, Y, none⟩) (hMm.out.far Y hYK).1 v3).setCell (p := ⟨gf Y, Z, none⟩) (hMm.out.far Y hYK).1 v4)
            clear hzz hzy hyz
            obtain ⟨wj, rfl⟩ : ∃ wj : World, wj = wr := ⟨_, rfl⟩
            go_wp2
            go_region
            go_wp2
            go_roundw
            case rel =>
              refine ⟨_, _, _, _, _, _, _, _, _, _, _, _, _, _, _, _, _, _, _, _, _, _, _, _, _, _, _, _, _, _, _, _, _, _, _, _, _, _, _, _, _, _, _, _, _, _, _, _, _, _, _, _, _, _, _, _, _, _, _, _, _, _, _, ?_, rfl⟩
              exact ⟨m + 1, by omega, by go_num, hid (by first | exact HMn.out wj.drew rfl | exact HMn.out wj rfl | exact (HMn.out wj rfl).same rfl), hid (by first | exact (HBn.out _ _ _ _).drew | exact HBn.out _ _ _ _ | exact bdn.mpr (HBn.out _ _ _ _))⟩
            case measure => simp [intOf]; omega
        · obtain rfl : m = n := by omega
          have hon : ∀ v : Nat, v < K + 1 → (onL es (v : Int)).length = 3 := fun v hv => by
            obtain ⟨x, y, z, h, _⟩ := onL_three G.out (v := (v : Int)) (by omega)
            rw [h]
            rfl
          have HMf := hid (show MatAt wr w.heap.size K gq gf cf (matT es) from hMm.out.ext fun k l hk _ => by
            rw [← Hn.out]
            exact accT_end (by have h := hon (k + 1) (by omega); rwa [show ((k + 1 : Nat) : Int) = (k : Int) + 1 by omega] at h))
          have HTi := hid (show TInv K 0 1 (matT es) by
            have h := matT_inv (N := K + 1) (es := es) (fun v hv => by rw [hon v hv]; exact Nat.le_refl _)
            rwa [Nat.add_sub_cancel] at h)
          clear hon
          go_wp2_with fail
          refine (sDet_any w.heap.size K gq cap gf cf (matT es) _ (by omega) HMf.out HTi.out).mono ?_
          rw [HD.out]
          rintro e w9 ⟨rfl, hk9⟩
          have HB9 := hid (hBm.out.trans (hk9.below (fun i hi => hi) hBm.out.size))
          clear hk9
          go_wp2
          go_ret
          exact ⟨rfl, HB9.out⟩

end Go.Proofs.Ytbimllpfbgjajaa
