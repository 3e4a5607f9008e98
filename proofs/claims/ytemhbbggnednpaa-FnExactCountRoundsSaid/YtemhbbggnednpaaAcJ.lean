/- The numbers of cycles by their lengths, in the program: cyclesByLength. -/
import Derived.Test.YtemhbbggnednpaaAcI
import Derived.BigRegion
namespace Go.Proofs.Ytemhbbggnednpaa
open Go.RowKit

theorem own_zerosA {ZC : Array Value} (w : World) (g n : Nat) (hZ : ZC = madeCells (Value.int .i64 0).cells (n * 1)) (hg : g = w.heap.size) (hn : n ≤ 30) : OwnI (w.alloc (.cells ZC 2)) g n (List.replicate n 0) := by
  subst hZ hg
  refine ⟨_, heap_alloc_new w _, by rw [size_madeCells, Nat.mul_one], by simp, by unfold maxLen; omega, fun i hi => ?_⟩
  have hi' : i < n := by simpa using hi
  rw [eI_lt (by simpa using hi')]
  simp [madeCells, hi', Value.cells, Nat.mod_one]
theorem grownA_set (W : World) (b o : Nat) (v : Value) : W.grownBy (W.setCell ⟨b, o, none⟩ v) (some b) :=
  ⟨rfl, rfl, rfl, by simp, fun i _ hi => heap_setCell_other W ⟨b, o, none⟩ i v (fun e => hi (by rw [e]))⟩
theorem acL_few {N k : Nat} {es : List (Int × Int)} (g : IsG N es) (hk : k ≤ es.length) : (acL es N k).length ≤ 104603532030 := by
  have h := acL_le (acI_three g) N k
  have hN : N ≤ 20 := by have := g.1.1.2.1; omega
  have h2 : (3 : Nat) ^ N ≤ 3 ^ 20 := Nat.pow_le_pow_right (by omega) hN
  have h3 : k ≤ 30 := by have := isG_len g; omega
  have h4 : k * 3 ^ N ≤ 30 * 3 ^ 20 := Nat.mul_le_mul h3 h2
  have h5 : (30 : Nat) * 3 ^ 20 ≤ 104603532030 := by decide
  omega

theorem fls_at (i : Nat) (hi : i < 20) : ((#[.bool false, .bool false, .bool false, .bool false, .bool false, .bool false, .bool false, .bool false, .bool false, .bool false, .bool false, .bool false, .bool false, .bool false, .bool false, .bool false, .bool false, .bool false, .bool false, .bool false] : Array Value))[i]? = some (.bool (decide ((i : Int) ∈ ([] : List Int)))) := by
  rcases (by omega : i = 0 ∨ i = 1 ∨ i = 2 ∨ i = 3 ∨ i = 4 ∨ i = 5 ∨ i = 6 ∨ i = 7 ∨ i = 8 ∨ i = 9 ∨ i = 10 ∨ i = 11 ∨ i = 12 ∨ i = 13 ∨ i = 14 ∨ i = 15 ∨ i = 16 ∨ i = 17 ∨ i = 18 ∨ i = 19) with h | h | h | h | h | h | h | h | h | h | h | h | h | h | h | h | h | h | h | h <;> subst h <;> rfl

set_option maxRecDepth 100000 in
set_option maxHeartbeats 16000000 in
theorem iCbl_any (N b off n c : Nat) (es : List (Int × Int)) (w : World) (hn : es.length = n) (hr : ReadsE w b off es) (g : IsG N es) :
    Calls Try.prog 70 #[.agg #[.int .i64 N, .slice (some ⟨b, off, none⟩) n c]] w fun e w' => ∃ gm, e = .returned (.slice (some ⟨gm, 0, none⟩) (N + 1) (N + 1)) ∧ w.heap.size ≤ gm ∧ OwnI w' gm (N + 1) (lensL N (acL es N n)) ∧ Below w.heap.size w w' := by
  have hn30 : n ≤ 30 := by have := isG_len g; omega
  have hN20 : N ≤ 20 := by have := g.1.1.2.1; omega
  have hN2 : 2 ≤ N := by have := g.1.1.1; omega
  have hbl : b < w.heap.size := reads_lt hr (by have := g.1.1.2.2.2; have := g.1.1.1; omega)
  have Hn := hid hn
  have Hr := hid hr
  have G := hid g
  obtain ⟨s, hs⟩ : ∃ s : Int, (N : Int) = s := ⟨_, rfl⟩
  have HS := hid hs
  obtain ⟨j0, hj, hy0, hy1, hy2⟩ := info_parts infoInt
  have hmk0 : ∀ w', (Instr.makeSlice 38 (.int .i64 (s + 1)) (.int .i64 (s + 1))).run Try.prog w' = .ok (.slice (some ⟨w'.heap.size, 0, none⟩) (N + 1) (N + 1)) (w'.alloc (.cells (madeCells (Value.int .i64 0).cells ((N + 1) * 1)) 2)) := fun w' => by
    have h := run_makeSlice (P := Try.prog) w' 38 2 j0 (.int .i64 0) Try.underlying38 hj hy0 .i64 .i64 (N + 1 : Nat) (N + 1 : Nat) (by omega) (Int.le_refl _) (by rw [hy1]; omega) (by rw [hy2]; omega) (by omega)
    rw [hy1] at h
    rw [← hs, show ((N : Int) + 1) = ((N + 1 : Nat) : Int) by omega]
    simpa using h
  obtain ⟨ZC, hZC⟩ : ∃ ZC, ZC = madeCells (Value.int .i64 0).cells ((N + 1) * 1) := ⟨_, rfl⟩
  have hmk : ∀ w', (Instr.makeSlice 38 (.int .i64 (s + 1)) (.int .i64 (s + 1))).run Try.prog w' = .ok (.slice (some ⟨w'.heap.size, 0, none⟩) (N + 1) (N + 1)) (w'.alloc (.cells ZC 2)) := by rw [hZC]; exact hmk0
  have HZC := hid hZC
  have e1 : IntKind.i64.wrap (s + 1) = s + 1 := IntWalk.i64_in _ (by omega)
  rw [hs]
  clear hn hr g hj hmk0 hZC hs
  go_enter Try.func70, Try.ntmps70
  go_wp2_with fail
  obtain ⟨w1, hw1⟩ : ∃ w1, w1 = (w.alloc (.cells #[.int .i64 s, .slice (some ⟨b, off, none⟩) n c] 28)).alloc (.cells ZC 2) := ⟨_, rfl⟩
  have HB1 := hid (show Below w.heap.size w w1 by rw [hw1]; exact bfrom (on_alloc _ _) (on_alloc _ _))
  have HX1 := hid (show Box w1 w.heap.size s (some ⟨b, off, none⟩) n c by rw [hw1]; exact (Box.new w s (some ⟨b, off, none⟩) n c 28).on (on_alloc _ _))
  have HO1 := hid (show OwnI w1 (w.heap.size + 1) (N + 1) (lensL N (acL es N 0)) by
    rw [hw1, show acL es N 0 = [] from rfl, lensL_nil]
    exact own_zerosA _ _ _ HZC.out (by simp) (by omega))
  rw [← hw1]
  clear hw1
  go_loopw [15] (fun u wr => ∃ k : Nat, k ≤ n ∧ u = .int .i64 k ∧ Hid (OwnI wr (w.heap.size + 1) (N + 1) (lensL N (acL es N k))) ∧ Hid (Box wr w.heap.size s (some ⟨b, off, none⟩) n c) ∧ Hid (Below w.heap.size w wr)) (fun u _ => n - (intOf u).toNat)
  case atStart => exact ⟨0, Nat.zero_le _, rfl, HO1, HX1, HB1⟩
  case round =>
    obtain ⟨k, hk, rfl, hO, hX, hB⟩ := hrel
    obtain ⟨wo, rfl⟩ : ∃ wo : World, wo = wr := ⟨_, rfl⟩
    by_cases hlt : k < n
    · have hlt' : (k : Int) < (n : Int) := by omega
      have hke : k < es.length := by rw [Hn.out]; exact hlt
      have hok := G.out.1.2 k hke
      have hrd := Hr.out.on hB.out k hke
      have hc1 := hrd.1
      have hc2 := hrd.2
      obtain ⟨X, hX1⟩ : ∃ X, eA es k = X := ⟨_, rfl⟩
      obtain ⟨Y, hY1⟩ : ∃ Y, eB es k = Y := ⟨_, rfl⟩
      rw [hX1] at hc1
      rw [hY1] at hc2
      have HXY := hid (And.intro hX1 hY1)
      have HYr := hid (show 0 ≤ Y ∧ Y < (N : Int) by rw [← hY1]; exact ⟨hok.2.2.1, hok.2.2.2.1⟩)
      have hbz := World.block_lt_of_cell? wo _ hc1
      dsimp only at hbz
      have hxb := hX.out.1
      have hyb := hX.out.2
      have hzb := hX.out.lt
      clear hX1 hY1 hrd hok
      go_wp2_with fail
      obtain ⟨w4, hw4⟩ : ∃ w4, w4 = (wo.alloc (.cells #[.int .i64 X, .int .i64 Y] 58)).alloc (.cells #[.int .i64 k] 2) := ⟨_, rfl⟩
      have HB4 := hid (show Below wo.heap.size wo w4 by rw [hw4]; exact bfrom (on_alloc _ _) (on_alloc _ _))
      have HZ4 := hid (show w4.heap.size = wo.heap.size + 2 by rw [hw4]; simp)
      have HO4 := hid (show OwnI w4 (wo.heap.size + 1) 1 [(k : Int)] by
        rw [hw4]
        exact ⟨#[.int .i64 k], (by
          have h := heap_alloc_new (wo.alloc (.cells #[.int .i64 X, .int .i64 Y] 58)) (.cells #[.int .i64 k] 2)
          rwa [World.size_alloc] at h), rfl, Nat.le_refl _, by unfold maxLen; omega, fun i hi => by
            obtain rfl : i = 0 := by simp at hi; omega
            rfl⟩)
      rw [← hw4]
      clear hw4
      have hsB := hB.out.size
      have h := iAc_any N b off n c k (b + 1) es G.out Hn.out hlt (by omega) N [(k : Int)] Y [] #[.bool false, .bool false, .bool false, .bool false, .bool false, .bool false, .bool false, .bool false, .bool false, .bool false, .bool false, .bool false, .bool false, .bool false, .bool false, .bool false, .bool false, .bool false, .bool false, .bool false] (wo.heap.size + 1) 1 w4 ⟨(Hr.out.on hB.out).on HB4.out, HO4.out, by omega, rfl, by simp, rfl, HYr.out, by simp, fun x hx => by simp at hx, rfl, fls_at⟩
      rw [HS.out, show ([(k : Int)]).length = 1 from rfl] at h
      refine h.mono ?_
      clear h
      rintro e' w5 ⟨q5, c5, ps, rfl, hrow, hmap, hat, hg5, ho5⟩
      obtain ⟨P, hP⟩ : ∃ P, ps.length = P := ⟨_, rfl⟩
      rw [hP] at hrow ⊢
      obtain ⟨FF, hFF⟩ : ∃ FF, acF es k N [(k : Int)] Y [] = FF := ⟨_, rfl⟩
      rw [hFF] at hmap
      have HSc := hid (show acL es N (k + 1) = acL es N k ++ FF by rw [acL_succ, HXY.out.2, hFF])
      have HFP := hid (show FF.length = P by rw [← hmap, List.length_map, hP])
      have hPb : P ≤ 104603532030 := by
        have h3 := acL_few (k := k + 1) G.out (by rw [Hn.out]; omega)
        rw [HSc.out, List.length_append, HFP.out] at h3
        omega
      have HB5 := hid (show Below wo.heap.size wo w5 from HB4.out.grown hg5 HB4.out.size (fun j hj => by have := Option.some.inj hj; omega))
      have HRow := hid hrow
      have HMap := hid (And.intro hmap hP)
      have hz4 := HZ4.out
      have HO5 := hid (hO.out.on HB5.out)
      have HX5 := hid (hX.out.on HB5.out)
      have hs5 := HB5.out.size
      clear hrow hmap hat hg5 ho5 hP hFF hxb hyb hzb hc1 hc2
      go_wp2_with fail
      go_loopw [28] (fun u wi => ∃ j : Nat, j ≤ P ∧ u = .int .i64 j ∧ Hid (OwnI wi (w.heap.size + 1) (N + 1) (lensL N (acL es N k ++ FF.take j))) ∧ Hid (w5.grownBy wi (some (w.heap.size + 1)))) (fun u _ => P - (intOf u).toNat)
      case atStart => exact ⟨0, Nat.zero_le _, rfl, hid (by rw [List.take_zero, List.append_nil]; exact HO5.out), hid (grownA (Below.refl _ _) _)⟩
      case round =>
        obtain ⟨j, hj, rfl, hOj, hGj⟩ := hrel
        obtain ⟨wi, rfl⟩ : ∃ wi : World, wi = wr := ⟨_, rfl⟩
        by_cases hjl : j < P
        · have hjl' : (j : Int) < (P : Int) := by omega
          obtain ⟨g9, rfl, hg9, hg9l, hcells⟩ := row_cellA HRow.out (by omega)
          have hjp : j < ps.length := by rw [HMap.out.2]; exact hjl
          have hcj := hcells j (acV ps[j]) (by rw [List.getElem?_map, List.getElem?_eq_getElem hjp]; rfl)
          obtain ⟨⟨Gj, Cj, x⟩, hpj⟩ : ∃ p, ps[j] = p := ⟨_, rfl⟩
          rw [hpj] at hcj
          have hx : FF[j]? = some x := by
            rw [← HMap.out.1, List.getElem?_map, List.getElem?_eq_getElem hjp, hpj]
            rfl
          rw [Addr.add_lit, Nat.zero_add] at hcj
          have hci := (World.cell?_of_block (w := w5) (w' := wi) (a := ⟨g9, j, none⟩) (hGj.out.block g9 hg9l (fun e => by have := Option.some.inj e; omega))).trans hcj
          have hg9w : g9 < wi.heap.size := Nat.lt_of_lt_of_le hg9l hGj.out.size
          have hxm : x ∈ acL es N (k + 1) := by
            rw [HSc.out]
            exact List.mem_append_right _ (List.mem_of_getElem? hx)
          have hxN := acL_row hxm
          obtain ⟨l, hl⟩ : ∃ l, x.length = l := ⟨_, rfl⟩
          have hlN : l ≤ N := by omega
          have hlN' : (l : Int) < ((N + 1 : Nat) : Int) := by omega
          have hcl := hOj.out.reads l (by rw [lensL_len]; omega)
          obtain ⟨C, hC⟩ : ∃ C, eI (lensL N (acL es N k ++ FF.take j)) l = C := ⟨_, rfl⟩
          rw [hC, Nat.zero_add] at hcl
          have hC0 : 0 ≤ C ∧ C ≤ 104603532030 := by
            rw [← hC, lensL_at _ hlN]
            have h1 := lenC_le (acL es N k ++ FF.take j) l
            have h2 : (acL es N k ++ FF.take j).length ≤ (acL es N (k + 1)).length := by
              rw [HSc.out, List.length_append, List.length_append, List.length_take]
              omega
            have h3 := acL_few (k := k + 1) G.out (by rw [Hn.out]; omega)
            omega
          have hCw : IntKind.i64.wrap (C + 1) = C + 1 := IntWalk.i64_in _ (by omega)
          have hfm := hOj.out.free l
          have hgm := hOj.out.lt
          have HNx := hid (show lensL N (acL es N k ++ FF.take (j + 1)) = (lensL N (acL es N k ++ FF.take j)).set l (C + 1) by
            rw [List.take_add_one, hx, ← List.append_assoc]
            show lensL N ((acL es N k ++ FF.take j) ++ [x]) = _
            rw [lensL_snoc _ (by omega), hl, hC])
          have HJl := hid (show j < P ∧ l < N + 1 from ⟨hjl, by omega⟩)
          unfold acV at hci
          dsimp only at hci
          rw [hl] at hci
          clear hC hC0 hx hxm hxN hcj hcells hpj hl hlN hjp
          go_wp2
          go_roundw
          case rel =>
            refine ⟨j + 1, by have := HJl.out; omega, by go_num, hid ?_, hid ?_⟩
            · rw [HNx.out]
              exact hOj.out.set (by rw [lensL_len]; exact HJl.out.2) _
            · exact grownA_trans hGj.out (grownA_set _ _ _ _)
          case measure => have := HJl.out; simp [intOf]; omega
        · obtain rfl : j = P := by omega
          have HOe := hid (show OwnI wi (w.heap.size + 1) (N + 1) (lensL N (acL es N (k + 1))) by
            have h := hOj.out
            rwa [List.take_of_length_le (by rw [HFP.out]; exact Nat.le_refl _), ← HSc.out] at h)
          have HBe := hid (show Below w.heap.size w wi from (bfrom hB.out HB5.out).grown hGj.out (by have := (bfrom hB.out HB5.out).size; exact this) (fun i hi => by have := Option.some.inj hi; omega))
          have HXe := hid (show Box wi w.heap.size s (some ⟨b, off, none⟩) n c from ⟨(World.cell?_of_block (w := w5) (w' := wi) (a := ⟨w.heap.size, 0, none⟩) (hGj.out.block _ HX5.out.lt (fun e => by have e1 : w.heap.size = w.heap.size + 1 := Option.some.inj e; omega))).trans HX5.out.1, (World.cell?_of_block (w := w5) (w' := wi) (a := ⟨w.heap.size, 1, none⟩) (hGj.out.block _ HX5.out.lt (fun e => by have e1 : w.heap.size = w.heap.size + 1 := Option.some.inj e; omega))).trans HX5.out.2⟩)
          have HK := hid hlt
          go_wp2
          go_roundw
          case rel => exact ⟨k + 1, by have := HK.out; omega, by go_num, HOe, HXe, HBe⟩
          case measure => have := HK.out; simp [intOf]; omega
    · obtain rfl : k = n := by omega
      go_wp2
      go_ret
      exact ⟨_, rfl, by omega, hO.out, hB.out⟩

end Go.Proofs.Ytemhbbggnednpaa
