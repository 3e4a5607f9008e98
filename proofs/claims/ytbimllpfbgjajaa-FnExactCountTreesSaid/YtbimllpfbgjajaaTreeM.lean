/- A matrix in memory, and its determinant in the program: determinantOf. -/
import Derived.Test.YtbimllpfbgjajaaTreeA
import Derived.Test.YtbimllpfbgjajaaMoves
import Derived.Test.YtbimllpfbgjajaaLawsF
import Derived.BigRegion
import Derived.BigQuiet
import Derived.StillTailTactics
import Derived.WalkKit
namespace Go.Proofs.Ytbimllpfbgjajaa
open Go.RowKit

attribute [local go_sem] Oper.semAt_some

def rowT (n : Nat) (f : Nat → Int) : List Int := (List.range n).map f
theorem rowT_len (n : Nat) (f : Nat → Int) : (rowT n f).length = n := by simp [rowT]
theorem rowT_at {n : Nat} {f : Nat → Int} {i : Nat} (hi : i < n) : eI (rowT n f) i = f i := by
  rw [eI_lt (by rw [rowT_len]; exact hi)]
  simp [rowT]
theorem rowT_set {n : Nat} {f : Nat → Int} {i : Nat} {v : Int} : (rowT n f).set i v = rowT n (fun l => if l = i then v else f l) := by
  apply List.ext_getElem (by simp [rowT])
  intro k h1 h2
  rw [List.getElem_set]
  simp only [rowT, List.getElem_map, List.getElem_range]
  by_cases e : i = k
  · subst e; simp
  · rw [if_neg e, if_neg (fun e' => e e'.symm)]
theorem rowT_ext {n : Nat} {f g : Nat → Int} (h : ∀ l, l < n → f l = g l) : rowT n f = rowT n g := by
  unfold rowT
  exact List.map_congr_left fun l hl => h l (List.mem_range.1 hl)

/-- A matrix: a row of rows, each with a block of its own. -/
structure MatAt (W : World) (B n b0 : Nat) (gs cs : Nat → Nat) (M : Nat → Nat → Int) : Prop where
  out : ∀ i, i < n → W.cell? ⟨b0, i, none⟩ = some (.slice (some ⟨gs i, 0, none⟩) n (cs i))
  row : ∀ i, i < n → OwnI W (gs i) (cs i) (rowT n (M i))
  far : ∀ i, i < n → B ≤ gs i ∧ gs i ≠ b0
  one : ∀ i j, i < n → j < n → i ≠ j → gs i ≠ gs j

section
variable {W W' : World} {B n b0 : Nat} {gs cs : Nat → Nat} {M : Nat → Nat → Int}
theorem MatAt.cell (h : MatAt W B n b0 gs cs M) {i j : Nat} (hi : i < n) (hj : j < n) : W.cell? ⟨gs i, j, none⟩ = some (.int .i64 (M i j)) := by
  have h1 := (h.row i hi).reads j (by rw [rowT_len]; exact hj)
  rwa [Nat.zero_add, rowT_at hj] at h1
theorem MatAt.ext {M' : Nat → Nat → Int} (h : MatAt W B n b0 gs cs M) (he : ∀ k l, k < n → l < n → M k l = M' k l) : MatAt W B n b0 gs cs M' :=
  ⟨h.out, fun i hi => by rw [← rowT_ext (he i · hi)]; exact h.row i hi, h.far, h.one⟩
theorem MatAt.same (h : MatAt W B n b0 gs cs M) (hk : W'.heap = W.heap) : MatAt W' B n b0 gs cs M :=
  ⟨fun i hi => by have := h.out i hi; unfold World.cell? at this ⊢; rw [hk]; exact this, fun i hi => (h.row i hi).keep (by rw [hk]), h.far, h.one⟩
theorem MatAt.set (h : MatAt W B n b0 gs cs M) {i j : Nat} (hi : i < n) (hj : j < n) (v : Int) : MatAt (W.setCell ⟨gs i, j, none⟩ (.int .i64 v)) B n b0 gs cs (fun k l => if k = i ∧ l = j then v else M k l) := by
  refine ⟨fun k hk => ?_, fun k hk => ?_, h.far, h.one⟩
  · have h1 := h.out k hk
    have h2 := heap_setCell_other W ⟨gs i, j, none⟩ b0 (.int .i64 v) (by show b0 ≠ gs i; exact fun e => (h.far i hi).2 e.symm)
    unfold World.cell? at h1 ⊢
    rw [h2]
    exact h1
  · by_cases e : k = i
    · subst e
      have h1 := (h.row k hk).set (k := j) (by rw [rowT_len]; exact hj) v
      rw [rowT_set] at h1
      rwa [rowT_ext (g := fun l => if k = k ∧ l = j then v else M k l) (fun l _ => by simp)] at h1
    · have h1 := (h.row k hk).keep (heap_setCell_other W ⟨gs i, j, none⟩ (gs k) (.int .i64 v) (by show gs k ≠ gs i; exact h.one k i hk hi e))
      rwa [rowT_ext (g := fun l => if k = i ∧ l = j then v else M k l) (fun l _ => by simp [e])] at h1
end

/-- A step half done: r rows, and of the next one the places before j. -/
def partT (b : Int) (i r j : Nat) (M : Nat → Nat → Int) (k l : Nat) : Int := if i < k ∧ i < l ∧ (k < i + 1 + r ∨ k = i + 1 + r ∧ l < j) then (numT i M k l).tdiv b else M k l
theorem partT_start (b : Int) (i j : Nat) (M : Nat → Nat → Int) (hj : j ≤ i + 1) (k l : Nat) : partT b i 0 j M k l = M k l := by
  unfold partT; rw [if_neg (by omega)]
theorem partT_end (b : Int) (i r n : Nat) (M : Nat → Nat → Int) (k l : Nat) (hl : l < n) : partT b i r n M k l = partT b i (r + 1) (i + 1) M k l := by
  unfold partT
  by_cases h : i < k ∧ i < l ∧ (k < i + 1 + r ∨ k = i + 1 + r ∧ l < n)
  · rw [if_pos h, if_pos (by omega)]
  · rw [if_neg h, if_neg (by omega)]
theorem partT_all (b : Int) (i r n j : Nat) (M : Nat → Nat → Int) (k l : Nat) (hk : k < n) (hr : n ≤ i + 1 + r) : partT b i r j M k l = stepT b i M k l := by
  unfold partT stepT
  by_cases h : i < k ∧ i < l
  · rw [if_pos (by omega), if_pos h]
  · rw [if_neg (by omega), if_neg h]
theorem partT_put (b : Int) (i r j : Nat) (M : Nat → Nat → Int) (hj : i < j) (k l : Nat) : (if k = i + 1 + r ∧ l = j then (numT i M (i + 1 + r) j).tdiv b else partT b i r j M k l) = partT b i r (j + 1) M k l := by
  unfold partT
  by_cases h : k = i + 1 + r ∧ l = j
  · obtain ⟨rfl, rfl⟩ := h
    rw [if_pos ⟨rfl, rfl⟩, if_pos (by omega)]
  · rw [if_neg h]
    by_cases h2 : i < k ∧ i < l ∧ (k < i + 1 + r ∨ k = i + 1 + r ∧ l < j)
    · rw [if_pos h2, if_pos (by omega)]
    · rw [if_neg h2, if_neg (by omega)]
theorem partT_off (b : Int) (i r j : Nat) (M : Nat → Nat → Int) {k l : Nat} (h : k ≤ i ∨ l ≤ i ∨ (k = i + 1 + r ∧ j ≤ l)) : partT b i r j M k l = M k l := by
  unfold partT; rw [if_neg (by omega)]

theorem mul_small {x y : Int} {C : Nat} (hx : -(C : Int) ≤ x ∧ x ≤ C) (hy : -(C : Int) ≤ y ∧ y ≤ C) : -((C * C : Nat) : Int) ≤ x * y ∧ x * y ≤ ((C * C : Nat) : Int) := by
  have h1 : x.natAbs ≤ C := by omega
  have h2 : y.natAbs ≤ C := by omega
  have h3 := Nat.mul_le_mul h1 h2
  rw [← Int.natAbs_mul] at h3
  omega

theorem three_pow {i : Nat} (h : i ≤ 18) : (3 : Int) ^ i ≤ 387420489 := by
  have h1 : 3 ^ i ≤ 3 ^ 18 := Nat.pow_le_pow_right (by omega) h
  have h2 : ((3 ^ i : Nat) : Int) = (3 : Int) ^ i := by push_cast; rfl
  have h3 : (3 : Nat) ^ 18 = 387420489 := by decide
  omega

theorem keptT_set {p : Nat → Prop} {W X : World} (h : Kept p W X) {a : Addr} (ha : ¬ p a.block) (v : Value) : Kept p W (X.setCell a v) :=
  ⟨h.os, h.tape, h.output, by simpa [World.setCell] using h.size, fun i hp hi => (heap_setCell_other X a i v (fun e => ha (by rw [← e]; exact hp))).trans (h.same i hp hi)⟩

set_option maxRecDepth 100000 in
set_option maxHeartbeats 16000000 in
theorem iDetK_any (B n b0 c0 : Nat) (gs cs : Nat → Nat) (M0 : Nat → Nat → Int) (w : World) (hn : n ≤ 19) (hnc : n ≤ c0) (hc9 : c0 ≤ 1048576) (hM : MatAt w B n b0 gs cs M0) (hT : TInv n 0 1 M0) :
    Calls Try.prog 101 #[.slice (some ⟨b0, 0, none⟩) n c0] w fun e w' => e = .returned (.int .i64 (detT n n 1 M0)) ∧ Kept (fun k => ∀ j, j < n → k ≠ gs j) w w' := by
  obtain ⟨D, hD⟩ : ∃ D, detT n n 1 M0 = D := ⟨_, rfl⟩
  rw [hD]
  have HD := hid (show detT n (n - 0) 1 M0 = D from hD)
  have HM := hid hM
  have HT := hid hT
  clear hD hM hT
  go_enter Try.func101, Try.ntmps101
  go_wp2
  go_loopw [3, 11] (fun u v wr => ∃ (i : Nat) (b : Int) (M : Nat → Nat → Int), i ≤ n ∧ u = .int .i64 b ∧ v = .int .i64 i ∧ Hid (MatAt wr B n b0 gs cs M) ∧ Hid (TInv n i b M) ∧ Hid (detT n (n - i) b M = D) ∧ Hid (Kept (fun k => ∀ j, j < n → k ≠ gs j) w wr)) (fun _ v _ => n - (intOf v).toNat)
  case atStart => exact ⟨0, 1, M0, Nat.zero_le _, rfl, rfl, HM, HT, HD, hid (Kept.refl _ _)⟩
  case round =>
    obtain ⟨i, b, M, hi, rfl, rfl, hM, hT, hD, hK⟩ := hrel
    by_cases hlt : i < n
    · have hlt' : (i : Int) < (n : Int) := by omega
      have ho := hM.out.out i hlt
      have hp := hM.out.cell hlt hlt
      have hb0 := World.block_lt_of_cell? wr _ ho
      have hgi := World.block_lt_of_cell? wr _ hp
      obtain ⟨p, hpe⟩ : ∃ p, M i i = p := ⟨_, rfl⟩
      rw [hpe] at hp
      have HP := hid hpe
      clear hpe
      by_cases hp0 : p = 0
      · have hres : D = 0 := by
          have h := hD.out
          rw [show n - i = (n - (i + 1)) + 1 by omega] at h
          unfold detT at h
          rw [show n - (n - (i + 1) + 1) = i by omega, HP.out, if_pos hp0] at h
          exact h.symm
        have HRes := hid hres
        subst hp0
        clear hres
        go_wp2
        go_ret
        exact ⟨by rw [HRes.out]; rfl, hK.out⟩
      · have hin : (i : Int) + 1 ≤ (n : Int) := by omega
        have hMi : ∀ r j k l, k ≤ i ∨ l ≤ i ∨ (k = i + 1 + r ∧ j ≤ l) → partT b i r j M k l = M k l := fun r j k l h => partT_off b i r j M h
        have HMi := hid hMi
        have hb1 : 1 ≤ b := by have := hT.out.pos; omega
        clear hMi
        by_cases hcl : i + 1 = c0
        · have hnl : n - (i + 1) = 0 := by omega
          go_wp2
          go_loopw [26] (fun v wx => ∃ r : Nat, r ≤ n - (i + 1) ∧ v = .int .i64 r ∧ Hid (MatAt wx B n b0 gs cs (partT b i r (i + 1) M)) ∧ Hid (Kept (fun k => ∀ j, j < n → k ≠ gs j) w wx)) (fun v _ => n - (i + 1) - (intOf v).toNat)
          case atStart => exact ⟨0, Nat.zero_le _, rfl, hid (hM.out.ext fun k l _ _ => (partT_start b i (i + 1) M (Nat.le_refl _) k l).symm), hK⟩
          case round =>
            obtain ⟨r, hr, rfl, hMr, hKr⟩ := hrel
            by_cases hlr : r < n - (i + 1)
            · omega
            · obtain rfl : r = n - (i + 1) := by omega
              have hpE : wr.cell? ⟨gs i, i, none⟩ = some (.int .i64 p) := by
                have h := hMr.out.cell hlt hlt
                rwa [HMi.out _ _ _ _ (.inl (Nat.le_refl _)), HP.out] at h
              have hge := World.block_lt_of_cell? wr _ hpE
              have HMS := hid (show MatAt wr B n b0 gs cs (stepT b i M) from hMr.out.ext fun k l hk _ => partT_all b i _ n (i + 1) M k l hk (by omega))
              have HTS := hid (show TInv n (i + 1) p (stepT b i M) by rw [← HP.out]; exact hT.out.step hlt (by rw [HP.out]; exact hp0))
              have HDS := hid (show detT n (n - (i + 1)) p (stepT b i M) = D by
                have h := hD.out
                rw [show n - i = (n - (i + 1)) + 1 by omega] at h
                unfold detT at h
                rw [show n - (n - (i + 1) + 1) = i by omega, HP.out, if_neg hp0] at h
                exact h)
              have hsub : ((n - (i + 1) : Nat) : Int) = (n : Int) - ((i : Int) + 1) := by omega
              go_wp2
              go_roundw
              case rel => exact ⟨i + 1, p, stepT b i M, by omega, rfl, by go_num, HMS, HTS, HDS, hKr⟩
              case measure => simp [intOf]; omega
        · go_wp2
          go_loopw [26] (fun v wx => ∃ r : Nat, r ≤ n - (i + 1) ∧ v = .int .i64 r ∧ Hid (MatAt wx B n b0 gs cs (partT b i r (i + 1) M)) ∧ Hid (Kept (fun k => ∀ j, j < n → k ≠ gs j) w wx)) (fun v _ => n - (i + 1) - (intOf v).toNat)
          case atStart => exact ⟨0, Nat.zero_le _, rfl, hid (hM.out.ext fun k l _ _ => (partT_start b i (i + 1) M (Nat.le_refl _) k l).symm), hK⟩
          case round =>
            obtain ⟨r, hr, rfl, hMr, hKr⟩ := hrel
            by_cases hlr : r < n - (i + 1)
            · have hlr' : (r : Int) < (n : Int) - ((i : Int) + 1) := by omega
              have hoK := hMr.out.out (i + 1 + r) (by omega)
              have hb1w := World.block_lt_of_cell? wr _ hoK
              go_wp2
              go_loopw [8] (fun v wx => ∃ j : Nat, i + 1 ≤ j ∧ j ≤ n ∧ v = .int .i64 j ∧ Hid (MatAt wx B n b0 gs cs (partT b i r j M)) ∧ Hid (Kept (fun k => ∀ j, j < n → k ≠ gs j) w wx)) (fun v _ => n - (intOf v).toNat)
              case atStart => exact ⟨i + 1, Nat.le_refl _, by omega, by go_num, hMr, hKr⟩
              case round =>
                obtain ⟨j, hj1, hjn, rfl, hMj, hKj⟩ := hrel
                by_cases hlj : j < n
                · have hlj' : (j : Int) < (n : Int) := by omega
                  obtain ⟨x, hx⟩ : ∃ x, M (i + 1 + r) j = x := ⟨_, rfl⟩
                  obtain ⟨a, ha⟩ : ∃ a, M (i + 1 + r) i = a := ⟨_, rfl⟩
                  obtain ⟨y, hy⟩ : ∃ y, M i j = y := ⟨_, rfl⟩
                  obtain ⟨v, hv⟩ : ∃ v, (x * p - a * y).tdiv b = v := ⟨_, rfl⟩
                  have hKn' : i + 1 + r < n := by omega
                  have hcx : wr.cell? ⟨gs (i + 1 + r), j, none⟩ = some (.int .i64 x) := by
                    have h := hMj.out.cell hKn' hlj
                    rwa [HMi.out _ _ _ _ (.inr (.inr ⟨rfl, Nat.le_refl _⟩)), hx] at h
                  have hca : wr.cell? ⟨gs (i + 1 + r), i, none⟩ = some (.int .i64 a) := by
                    have h := hMj.out.cell hKn' hlt
                    rwa [HMi.out _ _ _ _ (.inr (.inl (Nat.le_refl _))), ha] at h
                  have hcy : wr.cell? ⟨gs i, j, none⟩ = some (.int .i64 y) := by
                    have h := hMj.out.cell hlt hlj
                    rwa [HMi.out _ _ _ _ (.inl (Nat.le_refl _)), hy] at h
                  have hcp : wr.cell? ⟨gs i, i, none⟩ = some (.int .i64 p) := by
                    have h := hMj.out.cell hlt hlt
                    rwa [HMi.out _ _ _ _ (.inl (Nat.le_refl _)), HP.out] at h
                  have hfx := (hMj.out.row _ hKn').free j
                  have hgK := World.block_lt_of_cell? wr _ hcx
                  have hgI := World.block_lt_of_cell? wr _ hcp
                  have hC : 3 * b ≤ 387420489 := by
                    have h1 := hT.out.pw
                    have h2 := three_pow (i := i + 1) (by omega)
                    rw [Int.pow_succ] at h2
                    omega
                  have bx := hT.out.abs (k := i + 1 + r) (l := j) (by omega) hKn' (by omega) hlj
                  have ba := hT.out.abs (k := i + 1 + r) (l := i) (by omega) hKn' (Nat.le_refl _) hlt
                  have by' := hT.out.abs (k := i) (l := j) (Nat.le_refl _) hlt (by omega) hlj
                  have bp := hT.out.abs (k := i) (l := i) (Nat.le_refl _) hlt (Nat.le_refl _) hlt
                  rw [hx] at bx
                  rw [ha] at ba
                  rw [hy] at by'
                  rw [HP.out] at bp
                  have m1 := mul_small (C := 387420489) (x := x) (y := p) (by omega) (by omega)
                  have m2 := mul_small (C := 387420489) (x := a) (y := y) (by omega) (by omega)
                  rw [show ((387420489 * 387420489 : Nat) : Int) = 150094635296999121 by decide] at m1 m2
                  have bv := (hT.out.step hlt (by rw [HP.out]; exact hp0)).abs (k := i + 1 + r) (l := j) (by omega) hKn' (by omega) hlj
                  have hstv : stepT b i M (i + 1 + r) j = v := by
                    unfold stepT numT
                    rw [if_pos ⟨by omega, by omega⟩, hx, ha, hy, HP.out, hv]
                  rw [hstv, HP.out] at bv
                  have hnum : (numT i M (i + 1 + r) j).tdiv b = v := by unfold numT; rw [hx, ha, hy, HP.out, hv]
                  have HNum := hid hnum
                  have HV := hid hv
                  have hd1 : IntKind.i64.wrap (x * p) = x * p := IntWalk.i64_in _ (by omega)
                  have hd2 : IntKind.i64.wrap (a * y) = a * y := IntWalk.i64_in _ (by omega)
                  have hd3 : IntKind.i64.wrap (x * p - a * y) = x * p - a * y := IntWalk.i64_in _ (by omega)
                  have hd4 : IntKind.i64.wrap ((x * p - a * y).tdiv b) = v := by rw [hv]; exact IntWalk.i64_in _ (by omega)
                  have hb9 : ¬ b = 0 := by omega
                  clear m1 m2 bx ba by' bp bv hstv hnum hx ha hy hv hC
                  go_wp2
                  go_still_tail 24, (by kernel_rfl)
                  go_wp2_with fail
                  have HMn := hid (fun (W : World) (hW : W.heap = wr.heap) => show MatAt (W.setCell ⟨gs (i + 1 + r), j, none⟩ (.int .i64 v)) B n b0 gs cs (partT b i r (j + 1) M) from ((hMj.out.same hW).set hKn' hlj v).ext fun k l _ _ => by rw [← HNum.out]; exact partT_put b i r j M (by omega) k l)
                  have hKn := keptT_set hKj.out (a := ⟨gs (i + 1 + r), j, none⟩) (show ¬ (∀ j', j' < n → gs (i + 1 + r) ≠ gs j') from fun h => h _ hKn' rfl) (.int .i64 v)
                  exact ⟨⟨j + 1, by omega, by omega, by go_num, hid ((HMn.out wr rfl).same rfl), hid ⟨hKn.os, hKn.tape, hKn.output, hKn.size, hKn.same⟩⟩, by simp [intOf]; omega⟩
                · obtain rfl : j = n := by omega
                  have HMe := hid (show MatAt wr B j b0 gs cs (partT b i (r + 1) (i + 1) M) from hMj.out.ext fun k l _ hl => partT_end b i r j M k l hl)
                  go_wp2
                  go_roundw
                  case rel => exact ⟨r + 1, by omega, by go_num, HMe, hKj⟩
                  case measure => simp [intOf]; omega
            · obtain rfl : r = n - (i + 1) := by omega
              have hpE : wr.cell? ⟨gs i, i, none⟩ = some (.int .i64 p) := by
                have h := hMr.out.cell hlt hlt
                rwa [HMi.out _ _ _ _ (.inl (Nat.le_refl _)), HP.out] at h
              have hge := World.block_lt_of_cell? wr _ hpE
              have HMS := hid (show MatAt wr B n b0 gs cs (stepT b i M) from hMr.out.ext fun k l hk _ => partT_all b i _ n (i + 1) M k l hk (by omega))
              have HTS := hid (show TInv n (i + 1) p (stepT b i M) by rw [← HP.out]; exact hT.out.step hlt (by rw [HP.out]; exact hp0))
              have HDS := hid (show detT n (n - (i + 1)) p (stepT b i M) = D by
                have h := hD.out
                rw [show n - i = (n - (i + 1)) + 1 by omega] at h
                unfold detT at h
                rw [show n - (n - (i + 1) + 1) = i by omega, HP.out, if_neg hp0] at h
                exact h)
              have hsub : ((n - (i + 1) : Nat) : Int) = (n : Int) - ((i : Int) + 1) := by omega
              go_wp2
              go_roundw
              case rel => exact ⟨i + 1, p, stepT b i M, by omega, rfl, by go_num, HMS, HTS, HDS, hKr⟩
              case measure => simp [intOf]; omega
    · obtain rfl : i = n := by omega
      have hres : D = b := by
        have h := hD.out
        rw [Nat.sub_self] at h
        exact h.symm
      have HRes := hid hres
      clear hres
      go_wp2
      go_ret
      exact ⟨by rw [HRes.out]; rfl, hK.out⟩

theorem iDet_any (B n b0 c0 : Nat) (gs cs : Nat → Nat) (M0 : Nat → Nat → Int) (w : World) (hn : n ≤ 19) (hnc : n ≤ c0) (hc9 : c0 ≤ 1048576) (hM : MatAt w B n b0 gs cs M0) (hT : TInv n 0 1 M0) :
    Calls Try.prog 101 #[.slice (some ⟨b0, 0, none⟩) n c0] w fun e w' => e = .returned (.int .i64 (detT n n 1 M0)) ∧ Kept (fun k => k < B) w w' :=
  (iDetK_any B n b0 c0 gs cs M0 w hn hnc hc9 hM hT).mono fun _ _ ⟨h1, h2⟩ => ⟨h1, h2.mono fun k hk j hj => by have := (hM.far j hj).1; omega⟩

end Go.Proofs.Ytbimllpfbgjajaa
