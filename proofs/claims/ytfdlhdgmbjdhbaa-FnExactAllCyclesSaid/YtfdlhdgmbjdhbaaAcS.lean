/- All cycles in the model: sorting a list of numbers, the search, and all of them. -/
import Derived.Test.YtfdlhdgmbjdhbaaAcI
import Derived.Test.YtfdlhdgmbjdhbaaSpecAt
import Derived.Test.YtfdlhdgmbjdhbaaSpecD
import Derived.Test.YtfdlhdgmbjdhbaaOwnS
import Derived.Deep.AppendLies
import Derived.Deep.RegionHeld3
import Derived.BigRegion
import Derived.BigQuiet
namespace Go.Proofs.Ytfdlhdgmbjdhbaa
open Go.RowKit Go.Lib

theorem grownS_set (W : World) (b o : Nat) (v : Value) : W.grownBy (W.setCell ⟨b, o, none⟩ v) (some b) :=
  ⟨rfl, rfl, rfl, by simp, fun i _ hi => heap_setCell_other W ⟨b, o, none⟩ i v (fun e => hi (by rw [e]))⟩
theorem srtA_len (xs : List Int) : (srtA xs).length = xs.length := List.length_mergeSort _
theorem srtA_pw (xs : List Int) : (srtA xs).Pairwise (fun a b => a ≤ b) := by
  have h1 : (xs.mergeSort fun x y => decide (x ≤ y)).Pairwise (fun a b => decide (a ≤ b) = true) := List.pairwise_mergeSort (fun a b c h1 h2 => by simp at *; omega) (fun a b => by simp; omega) _
  exact h1.imp (by simp)
theorem srtA_ins {xs S : List Int} {x : Int} {m : Nat} (hS : srtA xs = S) (hlo : ∀ y, y ∈ S.take m → y ≤ x) (hhi : ∀ y, y ∈ S.drop m → x < y) : srtA (xs ++ [x]) = S.take m ++ x :: S.drop m := by
  refine mergeSort_eq ?_ ?_
  · refine (List.perm_append_comm).trans ?_
    show (x :: xs).Perm _
    refine (List.Perm.cons x (show xs.Perm S by rw [← hS]; exact (List.mergeSort_perm _ _).symm)).trans ?_
    have h := (List.perm_middle (a := x) (l₁ := S.take m) (l₂ := S.drop m)).symm
    rwa [List.take_append_drop] at h
  · have hp : S.Pairwise (fun a b => a ≤ b) := by rw [← hS]; exact srtA_pw xs
    rw [← List.take_append_drop m S] at hp
    have h2 := List.pairwise_append.1 hp
    refine List.pairwise_append.2 ⟨h2.1, List.pairwise_cons.2 ⟨fun y hy => by have := hhi y hy; omega, h2.2.1⟩, fun y hy z hz => ?_⟩
    rcases List.mem_cons.1 hz with rfl | hz
    · exact hlo y hy
    · exact h2.2.2 y hy z hz
theorem srtA_low {xs S : List Int} {x : Int} {m m' : Nat} (hS : srtA xs = S) (hm : m = m' + 1) (hl : m ≤ S.length) (h : eI S m' ≤ x) : ∀ y, y ∈ S.take m → y ≤ x := by
  intro y hy
  obtain ⟨i, hi, rfl⟩ := List.getElem_of_mem hy
  rw [List.length_take] at hi
  rw [List.getElem_take]
  have hp : S.Pairwise (fun a b => a ≤ b) := by rw [← hS]; exact srtA_pw xs
  rw [eI_lt (by omega)] at h
  rcases Nat.lt_or_ge i m' with h1 | h1
  · have := List.pairwise_iff_getElem.1 hp i m' (by omega) (by omega) h1
    omega
  · obtain rfl : i = m' := by omega
    exact h
theorem shf_step {S : List Int} {y : Int} {m m' : Nat} (hm : m = m' + 1) (hl : m ≤ S.length) : (S.take m ++ y :: S.drop m).set m (eI S m') = S.take m' ++ eI S m' :: S.drop m' := by
  subst hm
  have hd : S.drop m' = eI S m' :: S.drop (m' + 1) := by rw [List.drop_eq_getElem_cons (by omega), eI_lt (by omega)]
  have ht : S.take (m' + 1) = S.take m' ++ [eI S m'] := by rw [List.take_add_one, List.getElem?_eq_getElem (by omega), eI_lt (by omega)]; rfl
  have hlt : (S.take (m' + 1)).length = m' + 1 := by rw [List.length_take]; omega
  rw [List.set_append, if_neg (by omega), hlt, Nat.sub_self, List.set_cons_zero, ht, hd, List.append_assoc]
  rfl
theorem shf_put {S : List Int} {x y : Int} {m : Nat} (hl : m ≤ S.length) : (S.take m ++ y :: S.drop m).set m x = S.take m ++ x :: S.drop m := by
  have hlt : (S.take m).length = m := by rw [List.length_take]; omega
  rw [List.set_append, if_neg (by omega), hlt, Nat.sub_self, List.set_cons_zero]
theorem shf_at {S : List Int} {y : Int} {m m' : Nat} (hm : m = m' + 1) (hl : m ≤ S.length) : eI (S.take m ++ y :: S.drop m) m' = eI S m' := by
  unfold eI
  rw [List.getD_eq_getElem?_getD, List.getD_eq_getElem?_getD, List.getElem?_append_left (by rw [List.length_take]; omega), List.getElem?_take, if_pos (by omega)]
theorem shf_len {S : List Int} {y : Int} {m : Nat} (hl : m ≤ S.length) : (S.take m ++ y :: S.drop m).length = S.length + 1 := by
  rw [List.length_append, List.length_cons, List.length_take, List.length_drop]
  omega

set_option maxRecDepth 100000 in
set_option maxHeartbeats 8000000 in
theorem sSort7_any (b off n c : Nat) (xs : List Int) (w : World) (hn : xs.length = n) (hm : n ≤ 1000) (hr : ReadsI w b off xs) (hb : b < w.heap.size) :
    Calls Try.prog 103 #[.slice (some ⟨b, off, none⟩) n c] w fun e w' => ∃ q cap, e = .returned (.slice q n cap) ∧ FreshI w.heap.size w' q n cap (srtA xs) ∧ Below w.heap.size w w' := by
  have Hn := hid hn
  have Hr := hid hr
  obtain ⟨j0, hj, hy0, hy1, hy2⟩ := info_parts infoInt
  have Hj := hid hj
  clear hn hr hj
  go_enter Try.func103, Try.ntmps103
  go_wp2_with fail
  have HR0 := hid (World.ownsRow_made (base := w.heap.size) (e := 2) (size := 1) w #[] 0 (by omega) (Nat.zero_le _) rfl)
  have HB0 := hid (on_alloc w (.cells #[] 2))
  go_loopw [3, 4] (fun u i wr => ∃ (k cap : Nat) (q : Option Addr), k ≤ n ∧ u = .slice q k cap ∧ i = .int .i64 k ∧ Hid (wr.ownsRow w.heap.size 2 1 (.slice q k cap) k (intVals (srtA (xs.take k)))) ∧ Hid (Below w.heap.size w wr)) (fun _ i _ => n - (intOf i).toNat)
  case atStart => exact ⟨0, 0, _, Nat.zero_le _, rfl, rfl, hid (by rw [show srtA (xs.take 0) = [] by simp [srtA]]; exact HR0.out), HB0⟩
  case round =>
    clear HR0 HB0
    obtain ⟨k, cap, q, hk, rfl, rfl, hO, hB⟩ := hrel
    obtain ⟨wo, rfl⟩ : ∃ wo : World, wo = wr := ⟨_, rfl⟩
    by_cases hlt : k < n
    · have hlt' : (k : Int) < (n : Int) := by omega
      have hcx := Hr.out.on hB.out k (by rw [Hn.out]; exact hlt)
      obtain ⟨x, hx⟩ : ∃ x, eI xs k = x := ⟨_, rfl⟩
      rw [hx] at hcx
      have hbz := World.block_lt_of_cell? wo _ hcx
      dsimp only at hbz
      have HTk := hid (show xs.take (k + 1) = xs.take k ++ [x] by
        rw [List.take_add_one, List.getElem?_eq_getElem (by rw [Hn.out]; exact hlt), ← hx, eI_lt (by rw [Hn.out]; exact hlt)]
        rfl)
      obtain ⟨S, hS⟩ : ∃ S, srtA (xs.take k) = S := ⟨_, rfl⟩
      rw [hS] at hO
      have HSl := hid (show S.length = k by rw [← hS, srtA_len, List.length_take, Hn.out]; omega)
      have HS := hid hS
      have hszB := hB.out.size
      have hrow : ∀ j, (Value.slice q k cap).ownBlock = some j → w.heap.size ≤ j := fun j hj => (hO.out.lt j hj).1
      clear hx hS
      go_wp2_with (at_builtin; refine wpList_append_lies _ rfl (.tmp 15) (.tmp 20) 41 rfl w.heap.size 2 j0 (.int .i64 0) 1 8 Try.underlying41 Hj.out hy0 hy1 hy2 rfl (by decide) (.slice q k cap) k _ rfl (hO.out.alloc _) ⟨wo.heap.size, 0, none⟩ 1 1 [.int .i64 x] rfl rfl (World.news_of_block (cs := #[.int .i64 x]) (t := 2) (fr := (0, 0)) (heap_alloc_new _ _)) (by simp [Value.oneCell']) (by decide) (by unfold maxLen; omega) (by omega) (by simp; omega) (wo.heap.size + 1) (by simp) ?_; intro g cap2 w2 hown2 hgr2 hlie2 hgl2)
      have HO2 := hid (OwnI.of_row (base := w.heap.size) (n := k + 1) (xs := S ++ [x]) (by rw [intVals_append]; exact hown2) (by rw [List.length_append, HSl.out]; rfl))
      have HB2 := hid ((hB.out.alloc hszB (.cells #[.int .i64 x] 2)).grown hgr2 (by simp; omega) (fun j hj => hrow j hj))
      have hgw : w.heap.size ≤ g := HO2.out.2
      have hbg : b ≠ g := by omega
      have HC2 := hid (Hr.out.on HB2.out k (by rw [Hn.out]; exact hlt))
      clear hown2 hgr2 hlie2 hcx hbz hrow
      have hbz2 : b < w2.heap.size := Nat.lt_of_lt_of_le hb HB2.out.size
      have HX := hid (show eI xs k = x by
        have h := HTk.out
        rw [List.take_add_one, List.getElem?_eq_getElem (by rw [Hn.out]; exact hlt)] at h
        have h2 := List.append_cancel_left h
        rw [eI_lt (by rw [Hn.out]; exact hlt)]
        simpa using h2)
      have HKl := hid hlt
      go_loopw [5] (fun u wi => ∃ (m : Nat) (y : Int), m ≤ k ∧ u = .int .i64 m ∧ Hid (OwnI wi g cap2 (S.take m ++ y :: S.drop m)) ∧ Hid (∀ z, z ∈ S.drop m → x < z) ∧ Hid (w2.grownBy wi (some g))) (fun u _ => (intOf u).toNat)
      case atStart => exact ⟨k, x, Nat.le_refl _, rfl, hid (by rw [List.take_of_length_le (by rw [HSl.out]; exact Nat.le_refl _), List.drop_of_length_le (by rw [HSl.out]; exact Nat.le_refl _)]; exact HO2.out.1), hid (fun z hz => by rw [List.drop_of_length_le (by rw [HSl.out]; exact Nat.le_refl _)] at hz; cases hz), hid (grownA (Below.refl _ _) _)⟩
      case round =>
        obtain ⟨m, y, hmk, rfl, hOm, hHi, hG⟩ := hrel
        obtain ⟨wi, rfl⟩ : ∃ wi : World, wi = wr := ⟨_, rfl⟩
        have hgi := hOm.out.lt
        rcases Nat.eq_zero_or_pos m with hm0 | hm0
        · subst hm0
          have hf0 := hOm.out.free 0
          have hc0 := hOm.out.reads 0 (by rw [shf_len (by omega)]; omega)
          rw [Nat.zero_add] at hc0
          have hk1 : (0 : Int) < ((k + 1 : Nat) : Int) := by omega
          have hcx := (World.cell?_of_block (w := w2) (w' := wi) (a := ⟨b, off + k, none⟩) (hG.out.block b hbz2 (fun e => by have e1 : b = g := Option.some.inj e; omega))).trans HC2.out
          rw [HX.out] at hcx
          have hbw : b < wi.heap.size := Nat.lt_of_lt_of_le hbz2 hG.out.size
          have HMk := hid (Nat.zero_le k)
          clear hlt hlt'
          go_wp2_with fail
          go_quiet (fail)
          go_wp2
          go_roundw
          case rel =>
            refine ⟨k + 1, cap2, some ⟨g, 0, none⟩, by have := HKl.out; omega, rfl, by go_num, hid ?_, hid ?_⟩
            · have h := (hOm.out.drewN (n := nq)).set (k := 0) (by rw [shf_len (by rw [HSl.out]; exact HMk.out), HSl.out]; have := HMk.out; omega) x
              rw [shf_put (by rw [HSl.out]; exact HMk.out)] at h
              rw [HTk.out, srtA_ins HS.out (fun z hz => by simp at hz) hHi.out]
              exact OwnI.row h (by rw [List.length_append, List.length_cons, List.length_take, List.length_drop, HSl.out]; have := HMk.out; omega) HO2.out.2
            · exact (bdn.mpr (HB2.out.grown hG.out HB2.out.size (fun j hj => by have := Option.some.inj hj; omega))).setCell (p := ⟨g, 0, none⟩) (by show w.heap.size ≤ g; exact hgw) _
          case measure => have := HKl.out; simp [intOf]; omega
        · obtain ⟨m', hm'⟩ : ∃ m', m = m' + 1 := ⟨m - 1, by omega⟩
          have hz := shf_at (S := S) (y := y) hm' (by rw [HSl.out]; omega)
          obtain ⟨Z, hZ⟩ : ∃ Z, eI S m' = Z := ⟨_, rfl⟩
          rw [hZ] at hz
          have hcz := hOm.out.reads m' (by rw [shf_len (by rw [HSl.out]; omega), HSl.out]; omega)
          rw [hz, Nat.zero_add] at hcz
          have hcm := hOm.out.reads m (by rw [shf_len (by rw [HSl.out]; omega), HSl.out]; omega)
          rw [Nat.zero_add] at hcm
          have hfm := hOm.out.free m
          have hw1 : IntKind.i64.wrap ((m : Int) - 1) = (m' : Int) := by rw [IntWalk.i64_in _ (by omega)]; omega
          have hmd : decide ((0 : Int) < (m : Int)) = true := by rw [decide_eq_true_eq]; omega
          have hmd2 : decide (0 < m) = true := by rw [decide_eq_true_eq]; omega
          have hmk1 : (m : Int) < ((k + 1 : Nat) : Int) := by omega
          have hmk2 : (m' : Int) < ((k + 1 : Nat) : Int) := by omega
          have HM := hid hm'
          have HZ := hid hZ
          have HMk := hid hmk
          by_cases hxz : x < Z
          · have hd : decide (x < Z) = true := decide_eq_true hxz
            have HXZ := hid hxz
            have hcx := (World.cell?_of_block (w := w2) (w' := wi) (a := ⟨b, off + k, none⟩) (hG.out.block b hbz2 (fun e => by have e1 : b = g := Option.some.inj e; omega))).trans HC2.out
            rw [HX.out] at hcx
            have hbw : b < wi.heap.size := Nat.lt_of_lt_of_le hbz2 hG.out.size
            clear hxz hm' hz hZ hm0 hmk
            go_wp2_with fail
            go_quiet (fail)
            go_wp2
            go_roundw
            case rel =>
              refine ⟨m', Z, by have := HM.out; have := HMk.out; omega, rfl, hid ?_, hid ?_, hid ?_⟩
              · have h := (hOm.out.drewN (n := nq)).set (k := m) (by rw [shf_len (by rw [HSl.out]; exact HMk.out), HSl.out]; have := HMk.out; omega) Z
                have h2 := shf_step (S := S) (y := y) HM.out (by rw [HSl.out]; exact HMk.out)
                rw [HZ.out] at h2
                rw [h2] at h
                exact h
              · intro z hz
                rw [List.drop_eq_getElem_cons (by rw [HSl.out]; have := HM.out; have := HMk.out; omega)] at hz
                rcases List.mem_cons.1 hz with rfl | hz
                · have h := HXZ.out
                  rwa [← HZ.out, eI_lt (by rw [HSl.out]; have := HM.out; have := HMk.out; omega)] at h
                · exact hHi.out z (by rw [HM.out]; exact hz)
              · have h := hG.out
                exact grownA_trans (b := wi.drewN nq) ⟨h.os, h.tape, h.output, h.size, h.block⟩ (grownS_set (wi.drewN nq) g m _)
            case measure => have := HM.out; simp [intOf]; omega
          · have hd : decide (x < Z) = false := decide_eq_false hxz
            have HLow := hid (srtA_low HS.out hm' (by rw [HSl.out]; exact hmk) (show eI S m' ≤ x by rw [hZ]; omega))
            have hcx := (World.cell?_of_block (w := w2) (w' := wi) (a := ⟨b, off + k, none⟩) (hG.out.block b hbz2 (fun e => by have e1 : b = g := Option.some.inj e; omega))).trans HC2.out
            rw [HX.out] at hcx
            have hbw : b < wi.heap.size := Nat.lt_of_lt_of_le hbz2 hG.out.size
            clear hxz hm' hz hZ hm0 hmk
            go_wp2_with fail
            go_quiet (fail)
            go_wp2
            go_roundw
            case rel =>
              refine ⟨k + 1, cap2, some ⟨g, 0, none⟩, by have := HKl.out; omega, rfl, by go_num, hid ?_, hid ?_⟩
              · have h := (hOm.out.drewN (n := nq)).set (k := m) (by rw [shf_len (by rw [HSl.out]; exact HMk.out), HSl.out]; have := HMk.out; omega) x
                rw [shf_put (by rw [HSl.out]; exact HMk.out)] at h
                rw [HTk.out, srtA_ins HS.out HLow.out hHi.out]
                exact OwnI.row h (by rw [List.length_append, List.length_cons, List.length_take, List.length_drop, HSl.out]; have := HMk.out; omega) HO2.out.2
              · exact (bdn.mpr (HB2.out.grown hG.out HB2.out.size (fun j hj => by have := Option.some.inj hj; omega))).setCell (p := ⟨g, m, none⟩) (by show w.heap.size ≤ g; exact hgw) _
            case measure => have := HKl.out; simp [intOf]; omega
    · obtain rfl : k = n := by omega
      go_wp2
      go_ret
      have h := hO.out
      rw [show xs.take k = xs by rw [List.take_of_length_le (by rw [Hn.out]; exact Nat.le_refl _)]] at h
      exact ⟨q, cap, rfl, ⟨h, by rw [srtA_len]; exact Hn.out⟩, hB.out⟩

end Go.Proofs.Ytfdlhdgmbjdhbaa
