/- The determinant in the model: l09Det. -/
import Derived.Test.YtbimllpfbgjajaaTreeM
namespace Go.Proofs.Ytbimllpfbgjajaa
open Go.RowKit

attribute [local go_sem] Oper.semAt_some

/-- What lies in memory agrees with the step half done; columns that are done with may hold anything. -/
def AgT (n : Nat) (b : Int) (i r j : Nat) (M Mx : Nat → Nat → Int) : Prop := ∀ k l, i ≤ k → k < n → i ≤ l → l < n → (l = i → k = i ∨ i + 1 + r ≤ k) → Mx k l = partT b i r j M k l

theorem three_pow19 {i : Nat} (h : i ≤ 19) : (3 : Int) ^ i ≤ 1162261467 := by
  have h1 : 3 ^ i ≤ 3 ^ 19 := Nat.pow_le_pow_right (by omega) h
  have h2 : ((3 ^ i : Nat) : Int) = (3 : Int) ^ i := by push_cast; rfl
  have h3 : (3 : Nat) ^ 19 = 1162261467 := by decide
  omega

set_option maxRecDepth 100000 in
set_option maxHeartbeats 16000000 in
theorem sDet_any (B n b0 c0 : Nat) (gs cs : Nat → Nat) (M0 : Nat → Nat → Int) (w : World) (hn : n ≤ 19) (hM : MatAt w B n b0 gs cs M0) (hT : TInv n 0 1 M0) :
    Calls Try.prog 99 #[.slice (some ⟨b0, 0, none⟩) n c0] w fun e w' => e = .returned (.int .i64 (detT n n 1 M0)) ∧ Kept (fun k => k < B) w w' := by
  obtain ⟨D, hD⟩ : ∃ D, detT n n 1 M0 = D := ⟨_, rfl⟩
  rw [hD]
  have HD := hid (show detT n (n - 0) 1 M0 = D from hD)
  have HM := hid hM
  have HT := hid hT
  clear hD hM hT
  go_enter Try.func99, Try.ntmps99
  go_wp2
  go_loopw [4, 5, 6] (fun u s v wr => ∃ (i : Nat) (b : Int) (M Mx : Nat → Nat → Int), i ≤ n ∧ u = .int .i64 b ∧ s = .int .i64 1 ∧ v = .int .i64 i ∧ Hid (MatAt wr B n b0 gs cs Mx) ∧ Hid (∀ k l, i ≤ k → k < n → i ≤ l → l < n → Mx k l = M k l) ∧ Hid (TInv n i b M) ∧ Hid (detT n (n - i) b M = D) ∧ Hid (Kept (fun k => k < B) w wr)) (fun _ _ v _ => n - (intOf v).toNat)
  case atStart => exact ⟨0, 1, M0, M0, Nat.zero_le _, rfl, rfl, rfl, HM, hid (fun _ _ _ _ _ _ => rfl), HT, HD, hid (Kept.refl _ _)⟩
  case round =>
    obtain ⟨i, b, M, Mx, hi, rfl, rfl, rfl, hMx, hAg, hT, hD, hK⟩ := hrel
    by_cases hlt : i < n
    · have hlt' : (i : Int) < (n : Int) := by omega
      obtain ⟨p, hpe⟩ : ∃ p, M i i = p := ⟨_, rfl⟩
      have HP := hid hpe
      clear hpe
      by_cases hp0 : p = 0
      · have hres : D = 0 := by
          have h := hD.out
          rw [show n - i = (n - (i + 1)) + 1 by omega] at h
          unfold detT at h
          rw [show n - (n - (i + 1) + 1) = i by omega, HP.out, if_pos hp0] at h
          exact h.symm
        have HRes := hid hres
        have HZero := hid (fun k (h1 : i ≤ k) (h2 : k < n) => show Mx k i = 0 by rw [hAg.out k i h1 h2 (Nat.le_refl _) hlt]; exact hT.out.none hlt (by rw [HP.out]; exact hp0) k h1 h2)
        clear hres
        go_wp2
        go_loopw [7] (fun v wx => ∃ k : Nat, i ≤ k ∧ k ≤ n ∧ v = .int .i64 k ∧ wx = wr) (fun v _ => n - (intOf v).toNat)
        case atStart => exact ⟨i, Nat.le_refl _, by omega, rfl, rfl⟩
        case round =>
          obtain ⟨k, hk1, hk2, rfl, rfl⟩ := hrel
          by_cases hkn : k < n
          · have hkn' : (k : Int) < (n : Int) := by omega
            have ho := hMx.out.out k hkn
            have hc := hMx.out.cell hkn hlt
            rw [HZero.out k hk1 hkn] at hc
            have h1 := World.block_lt_of_cell? _ _ ho
            have h2 := World.block_lt_of_cell? _ _ hc
            go_wp2
            go_roundw
            case rel => exact ⟨k + 1, by omega, by omega, by go_num, by first | rfl | trivial⟩
            case measure => simp [intOf]; omega
          · obtain rfl : k = n := by omega
            go_wp2
            go_ret
            exact ⟨by rw [HRes.out]; rfl, hK.out⟩
      · have ho := hMx.out.out i hlt
        have hc := hMx.out.cell hlt hlt
        rw [hAg.out i i (Nat.le_refl _) hlt (Nat.le_refl _) hlt, HP.out] at hc
        have hb0 := World.block_lt_of_cell? wr _ ho
        have hgi := World.block_lt_of_cell? wr _ hc
        have hb1 : 1 ≤ b := by have := hT.out.pos; omega
        have HMi := hid (fun r j k l (h : k ≤ i ∨ l ≤ i ∨ (k = i + 1 + r ∧ j ≤ l)) => partT_off b i r j M h)
        have hni : ¬ (i : Int) = (n : Int) := by omega
        go_wp2
        go_loopw [7] (fun v wx => v = .int .i64 i ∧ wx = wr) (fun v _ => n - (intOf v).toNat)
        case atStart => exact ⟨rfl, rfl⟩
        case round =>
          obtain ⟨rfl, rfl⟩ := hrel
          go_wp2
          go_loopw [9] (fun v wx => ∃ (r : Nat) (Mr : Nat → Nat → Int), r ≤ n - (i + 1) ∧ v = .int .i64 ((i + 1 + r : Nat) : Int) ∧ Hid (MatAt wx B n b0 gs cs Mr) ∧ Hid (AgT n b i r (i + 1) M Mr) ∧ Hid (Kept (fun k => k < B) w wx)) (fun v _ => n - (intOf v).toNat)
          case atStart => exact ⟨0, Mx, Nat.zero_le _, by go_num, hMx, hid (fun k l h1 h2 h3 h4 _ => by rw [partT_start b i (i + 1) M (Nat.le_refl _)]; exact hAg.out k l h1 h2 h3 h4), hK⟩
          case round =>
            obtain ⟨r, Mr, hr, rfl, hMr, hAr, hKr⟩ := hrel
            by_cases hlr : r < n - (i + 1)
            · have hlr' : ((i + 1 + r : Nat) : Int) < (n : Int) := by omega
              have hoK := hMr.out.out (i + 1 + r) (by omega)
              have hb1w := World.block_lt_of_cell? wr _ hoK
              go_wp2
              go_loopw [11] (fun v wx => ∃ (j : Nat) (Mj : Nat → Nat → Int), i + 1 ≤ j ∧ j ≤ n ∧ v = .int .i64 j ∧ Hid (MatAt wx B n b0 gs cs Mj) ∧ Hid (AgT n b i r j M Mj) ∧ Hid (Kept (fun k => k < B) w wx)) (fun v _ => n - (intOf v).toNat)
              case atStart => exact ⟨i + 1, Mr, Nat.le_refl _, by omega, by go_num, hMr, hAr, hKr⟩
              case round =>
                obtain ⟨j, Mj, hj1, hjn, rfl, hMj, hAj, hKj⟩ := hrel
                have hKn' : i + 1 + r < n := by omega
                by_cases hlj : j < n
                · have hlj' : (j : Int) < (n : Int) := by omega
                  obtain ⟨x, hx⟩ : ∃ x, M (i + 1 + r) j = x := ⟨_, rfl⟩
                  obtain ⟨a, ha⟩ : ∃ a, M (i + 1 + r) i = a := ⟨_, rfl⟩
                  obtain ⟨y, hy⟩ : ∃ y, M i j = y := ⟨_, rfl⟩
                  obtain ⟨v, hv⟩ : ∃ v, (x * p - a * y).tdiv b = v := ⟨_, rfl⟩
                  have hoi := hMj.out.out i hlt
                  have hoi1 := World.block_lt_of_cell? wr _ hoi
                  have hcx : wr.cell? ⟨gs (i + 1 + r), j, none⟩ = some (.int .i64 x) := by
                    have h := hMj.out.cell hKn' hlj
                    rwa [hAj.out _ _ (by omega) hKn' (by omega) hlj (fun e => by omega), HMi.out _ _ _ _ (.inr (.inr ⟨rfl, Nat.le_refl _⟩)), hx] at h
                  have hca : wr.cell? ⟨gs (i + 1 + r), i, none⟩ = some (.int .i64 a) := by
                    have h := hMj.out.cell hKn' hlt
                    rwa [hAj.out _ _ (by omega) hKn' (Nat.le_refl _) hlt (fun _ => .inr (Nat.le_refl _)), HMi.out _ _ _ _ (.inr (.inl (Nat.le_refl _))), ha] at h
                  have hcy : wr.cell? ⟨gs i, j, none⟩ = some (.int .i64 y) := by
                    have h := hMj.out.cell hlt hlj
                    rwa [hAj.out _ _ (Nat.le_refl _) hlt (by omega) hlj (fun e => by omega), HMi.out _ _ _ _ (.inl (Nat.le_refl _)), hy] at h
                  have hcp : wr.cell? ⟨gs i, i, none⟩ = some (.int .i64 p) := by
                    have h := hMj.out.cell hlt hlt
                    rwa [hAj.out _ _ (Nat.le_refl _) hlt (Nat.le_refl _) hlt (fun _ => .inl rfl), HMi.out _ _ _ _ (.inl (Nat.le_refl _)), HP.out] at h
                  have hfx := (hMj.out.row _ hKn').free j
                  have hgK := World.block_lt_of_cell? wr _ hcx
                  have hgI := World.block_lt_of_cell? wr _ hcp
                  have hC : 3 * b ≤ 387420489 := by
                    have h1 := hT.out.pw
                    have h2 := three_pow (i := i + 1) (by omega)
                    rw [Int.pow_succ] at h2
                    omega
                  have bx := hT.out.abs (k := i + 1 + r) (l := j) (by omega) hKn' (by omega) hlj
                  have ba := hT.out.abs (k := i + 1 + r) (l := i) (by omega) hKn' (Nat.le_refl _) hlt
                  have by' := hT.out.abs (k := i) (l := j) (Nat.le_refl _) hlt (by omega) hlj
                  have bp := hT.out.abs (k := i) (l := i) (Nat.le_refl _) hlt (Nat.le_refl _) hlt
                  rw [hx] at bx
                  rw [ha] at ba
                  rw [hy] at by'
                  rw [HP.out] at bp
                  have m1 := mul_small (C := 387420489) (x := x) (y := p) (by omega) (by omega)
                  have m2 := mul_small (C := 387420489) (x := a) (y := y) (by omega) (by omega)
                  rw [show ((387420489 * 387420489 : Nat) : Int) = 150094635296999121 by decide] at m1 m2
                  have bv := (hT.out.step hlt (by rw [HP.out]; exact hp0)).abs (k := i + 1 + r) (l := j) (by omega) hKn' (by omega) hlj
                  have hstv : stepT b i M (i + 1 + r) j = v := by
                    unfold stepT numT
                    rw [if_pos ⟨by omega, by omega⟩, hx, ha, hy, HP.out, hv]
                  rw [hstv, HP.out] at bv
                  have hnum : (numT i M (i + 1 + r) j).tdiv b = v := by unfold numT; rw [hx, ha, hy, HP.out, hv]
                  have HNum := hid hnum
                  have hd1 : IntKind.i64.wrap (x * p) = x * p := IntWalk.i64_in _ (by omega)
                  have hd2 : IntKind.i64.wrap (a * y) = a * y := IntWalk.i64_in _ (by omega)
                  have hd3 : IntKind.i64.wrap (x * p - a * y) = x * p - a * y := IntWalk.i64_in _ (by omega)
                  have hd4 : IntKind.i64.wrap ((x * p - a * y).tdiv b) = v := by rw [hv]; exact IntWalk.i64_in _ (by omega)
                  have hb9 : ¬ b = 0 := by omega
                  clear m1 m2 bx ba by' bp bv hstv hnum hx ha hy hv hC
                  go_wp2
                  go_still_tail 30, (by kernel_rfl)
                  go_wp2_with fail
                  have HMn := hid (show MatAt (wr.setCell ⟨gs (i + 1 + r), j, none⟩ (.int .i64 v)) B n b0 gs cs (fun k l => if k = i + 1 + r ∧ l = j then v else Mj k l) from hMj.out.set hKn' hlj v)
                  have HAn := hid (show AgT n b i r (j + 1) M (fun k l => if k = i + 1 + r ∧ l = j then v else Mj k l) from fun k l h1 h2 h3 h4 h5 => by
                    show (if k = i + 1 + r ∧ l = j then v else Mj k l) = _
                    rw [← partT_put b i r j M (by omega) k l, HNum.out]
                    split
                    · rfl
                    · exact hAj.out k l h1 h2 h3 h4 h5)
                  have hKn := keptT_set hKj.out (a := ⟨gs (i + 1 + r), j, none⟩) (by have := (hMj.out.far _ hKn').1; show ¬ gs (i + 1 + r) < B; omega) (.int .i64 v)
                  exact ⟨⟨j + 1, _, by omega, by omega, by go_num, hid (HMn.out.same rfl), HAn, hid ⟨hKn.os, hKn.tape, hKn.output, hKn.size, hKn.same⟩⟩, by simp [intOf]; omega⟩
                · obtain rfl : j = n := by omega
                  have hcz := hMj.out.cell hKn' hlt
                  have hfz := (hMj.out.row _ hKn').free i
                  have hgz := World.block_lt_of_cell? wr _ hcz
                  have HMz := hid (show MatAt (wr.setCell ⟨gs (i + 1 + r), i, none⟩ (.int .i64 0)) B j b0 gs cs (fun k l => if k = i + 1 + r ∧ l = i then 0 else Mj k l) from hMj.out.set hKn' hlt 0)
                  have HAz := hid (show AgT j b i (r + 1) (i + 1) M (fun k l => if k = i + 1 + r ∧ l = i then 0 else Mj k l) from fun k l h1 h2 h3 h4 h5 => by
                    show (if k = i + 1 + r ∧ l = i then 0 else Mj k l) = _
                    rw [if_neg (fun e => by have := h5 e.2; omega), ← partT_end b i r j M k l h4]
                    exact hAj.out k l h1 h2 h3 h4 (fun e => by have := h5 e; omega))
                  have hKz := keptT_set hKj.out (a := ⟨gs (i + 1 + r), i, none⟩) (by have := (hMj.out.far _ hKn').1; show ¬ gs (i + 1 + r) < B; omega) (.int .i64 0)
                  have HKz := hid hKz
                  clear hKz
                  go_wp2
                  go_roundw
                  case rel =>
                    exact ⟨r + 1, by omega, by first | omega | go_num, (fun k l => if k = i + 1 + r ∧ l = i then 0 else Mj k l), HMz, HAz⟩
                  case measure => simp [intOf]; omega
            · obtain rfl : r = n - (i + 1) := by omega
              have hpE : wr.cell? ⟨gs i, i, none⟩ = some (.int .i64 p) := by
                have h := hMr.out.cell hlt hlt
                rwa [hAr.out i i (Nat.le_refl _) hlt (Nat.le_refl _) hlt (fun _ => .inl rfl), HMi.out _ _ _ _ (.inl (Nat.le_refl _)), HP.out] at h
              have hge := World.block_lt_of_cell? wr _ hpE
              have hoi := hMr.out.out i hlt
              have hoi1 := World.block_lt_of_cell? wr _ hoi
              have HAS := hid (fun k l (h1 : i + 1 ≤ k) (h2 : k < n) (h3 : i + 1 ≤ l) (h4 : l < n) => show Mr k l = stepT b i M k l by
                rw [hAr.out k l (by omega) h2 (by omega) h4 (fun e => by omega)]
                exact partT_all b i _ n (i + 1) M k l h2 (by omega))
              have HTS := hid (show TInv n (i + 1) p (stepT b i M) by rw [← HP.out]; exact hT.out.step hlt (by rw [HP.out]; exact hp0))
              have HDS := hid (show detT n (n - (i + 1)) p (stepT b i M) = D by
                have h := hD.out
                rw [show n - i = (n - (i + 1)) + 1 by omega] at h
                unfold detT at h
                rw [show n - (n - (i + 1) + 1) = i by omega, HP.out, if_neg hp0] at h
                exact h)
              have hend : ¬ (((i + 1 + (n - (i + 1)) : Nat)) : Int) < (n : Int) := by omega
              go_wp2
              go_roundw
              case rel => exact ⟨i + 1, p, stepT b i M, Mr, by omega, rfl, rfl, by go_num, hMr, HAS, HTS, HDS, hKr⟩
              case measure => simp [intOf]; omega
    · obtain rfl : i = n := by omega
      have hres : D = b := by
        have h := hD.out
        rw [Nat.sub_self] at h
        exact h.symm
      have HRes := hid hres
      have hbb : b ≤ 1162261467 ∧ 1 ≤ b := by
        have h1 := hT.out.pw
        have h2 := hT.out.pos
        have h3 := three_pow19 hn
        omega
      clear hres
      go_wp2
      go_ret
      exact ⟨by rw [HRes.out]; simp, hK.out⟩

end Go.Proofs.Ytbimllpfbgjajaa
