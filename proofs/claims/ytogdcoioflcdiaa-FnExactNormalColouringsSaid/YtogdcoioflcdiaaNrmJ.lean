/- The range over the normal colourings, in the program: what normalColouringsOf's function owes. -/
import Derived.Test.YtogdcoioflcdiaaNrmI
import Derived.Test.YtogdcoioflcdiaaNrmR
namespace Go.Proofs.Ytogdcoioflcdiaa
open Go.RowKit Go.Shelf

attribute [local go_sem] Oper.semAt_some

set_option maxHeartbeats 1000000 in
/-- The maker of the range: the graph is boxed. -/
theorem iNormal_func (s : Int) (p : Option Addr) (n c : Nat) (w : World) :
    Calls Try.prog 89 #[.agg #[.int .i64 s, .slice p n c]] w fun e w' => e = .returned (.func (.func 136) #[] #[.pointer (some ⟨w.heap.size, 0, none⟩)]) ∧ w' = w.alloc (.cells #[.int .i64 s, .slice p n c] 31) := by
  go_enter Try.func89, Try.ntmps89
  go_wp2
  go_ret
  exact ⟨rfl, rfl⟩

set_option maxRecDepth 100000 in
set_option maxHeartbeats 8000000 in
theorem nrm_moves (d n0 Ab Bg b off n c0 : Nat) (s : Int) (es : List (Int × Int)) (w0 : World) (hn0 : n0 ≤ w0.heap.size) (hA : w0.heap.size ≤ Ab)
    (hG : w0.heap[Bg]? = some (.cells #[.int .i64 s, .slice (some ⟨b, off, none⟩) n c0] 31 (0, 0))) (g : IsG s es) (hn : es.length = n) (hb : b < n0) (hr : ReadsE w0 b off es) :
    SeqMoves Fence.wide (d + 1) Try.prog 136 #[.pointer (some ⟨Bg, 0, none⟩)] (fun (_ : List Int) => #[.slice (some ⟨Ab, 0, none⟩) n n]) Ab (fun x W => OwnI W Ab n x ∧ x.length = n ∧ Ab + 1 < W.heap.size) (KeptG n0 Ab (Ab + 1)) (Kept (fun i => i ≠ Ab ∧ i ≠ Ab + 1))
      (fun ys => ys = nrmL es) (fun pre => pre <+: nrmL es) (nrmL es).length w0 := by
  intro l J Jx W hW hB hJ hJx hY h0
  subst hW
  have hn30 : n ≤ 30 := by have := isG_len g; omega
  have hn3 : 3 ≤ n := by have := three_leN g; omega
  have hGW := (hB.block Bg (Array.getElem?_eq_some_iff.1 hG).1).trans hG
  have hBg : Bg < W.heap.size := (Array.getElem?_eq_some_iff.1 hGW).1
  have hg1 : W.cell? ⟨Bg, 0, none⟩ = some (.int .i64 s) := by simp [World.cell?, hGW]
  have hg2 : W.cell? ⟨Bg, 1, none⟩ = some (.slice (some ⟨b, off, none⟩) n c0) := by simp [World.cell?, hGW]
  have hsz := hB.size
  have hbW : b < W.heap.size := by omega
  have HGO := hid (goOn_any n0 W.heap.size (W.heap.size + 1) l (nrmL es).length b off n c0 s es g hn hb (by omega) (by omega) (by omega) J Jx hJ (fun m pre x W1 h1 h2 h3 h5 h4 => yieldAt_any rfl m (hY pre x W1 h1 ⟨h2, h3, h5⟩ h4)))
  have HJ := hid hJ
  have HG := hid hGW
  have G := hid g
  have Hn := hid hn
  have HR := hid (hr.on hB)
  obtain ⟨i0, hi, hz0, hz1, hz2⟩ := info_parts infoInt
  have hmk0 : ∀ w', (Instr.makeSlice 25 (.int .i64 0) (.int .i64 n)).run Try.prog w' = .ok (.slice (some ⟨w'.heap.size, 0, none⟩) 0 n) (w'.alloc (.cells (madeCells (Value.int .i64 0).cells (n * 1)) 2)) := fun w' => by
    have h := run_makeSlice (P := Try.prog) w' 25 2 i0 (.int .i64 0) Try.underlying25 hi hz0 .i64 .i64 0 n (by omega) (by omega) (by rw [hz1]; omega) (by rw [hz2]; omega) (by omega)
    rw [hz1] at h
    simpa using h
  obtain ⟨ZC, hZC⟩ : ∃ ZC, ZC = madeCells (Value.int .i64 0).cells (n * 1) := ⟨_, rfl⟩
  have hmk : ∀ w', (Instr.makeSlice 25 (.int .i64 0) (.int .i64 n)).run Try.prog w' = .ok (.slice (some ⟨w'.heap.size, 0, none⟩) 0 n) (w'.alloc (.cells ZC 2)) := by rw [hZC]; exact hmk0
  have hZs : ZC.size = n := by rw [hZC, size_madeCells, Nat.mul_one]
  obtain ⟨w3, hw3⟩ : ∃ w3, w3 = (W.alloc (.cells ZC 2)).alloc (.cells (Array.replicate 60 (Value.bool false)) 125) := ⟨_, rfl⟩
  have HB3 := hid (show Below W.heap.size W w3 by rw [hw3]; exact bfrom (on_alloc _ _) (on_alloc _ _))
  have HZ3 := hid (show w3.heap.size = W.heap.size + 2 by rw [hw3]; simp)
  have HO3 := hid (show OwnI w3 W.heap.size n (rngI 0) by
    rw [hw3]
    exact OwnI.alloc (show OwnI (W.alloc (.cells ZC 2)) W.heap.size n (rngI 0) from ⟨ZC, heap_alloc_new W _, hZs, by simp [rngI], by unfold maxLen; omega, fun i hi => by simp [rngI] at hi⟩) _)
  have HT3 := hid (show OwnC w3 (W.heap.size + 1) (takeL es (rngI 0) 0) by
    rw [hw3, takeL_zero]
    refine ⟨by simp, Array.replicate 60 (Value.bool false), ?_, by simp, fun i hi => ?_⟩
    · have h := heap_alloc_new (W.alloc (.cells ZC 2)) (.cells (Array.replicate 60 (Value.bool false)) 125)
      simp only [World.size_alloc] at h
      exact h
    · have h0 : eL (List.replicate 60 false) i = false := by
        unfold eL
        rw [List.getD_eq_getElem?_getD, List.getElem?_replicate, if_pos hi]
        rfl
      rw [Array.getElem?_replicate, if_pos hi, h0])
  have HJ3 := hid (hJ [] W w3 h0 ((Kept.refl _ W).call HB3.out))
  have Hi := hid hi
  clear hmk0 hZC hZs hi hn hr g hJ hJx hY h0 hG hGW
  refine callsIn_wide.2 ?_
  go_enter Try.func136, Try.ntmps136
  go_wp2
  subst hw3
  clear hmk
  go_loopw [3, 10] (fun u v wr => ∃ k : Nat, k ≤ 3 ∧ u = .slice (some ⟨W.heap.size, 0, none⟩) k n ∧ v = .int .i64 k ∧ Hid (J [] wr) ∧ Hid (OwnI wr W.heap.size n (rngI k) ∧ OwnC wr (W.heap.size + 1) (takeL es (rngI k) k)) ∧ Hid (KeptH n0 W wr)) (fun _ v _ => 3 - (intOf v).toNat)
  case atStart => exact ⟨0, by omega, rfl, rfl, HJ3, hid ⟨HO3.out, HT3.out⟩, hid (KeptH.below HB3.out)⟩
  case round =>
    obtain ⟨k, hk, rfl, rfl, hJk, hS, hKH⟩ := hrel
    have hszr := hKH.out.1
    have hgr := (hKH.out.2.2 _ _ _ _ HG.out (.inl rfl)).trans HG.out
    have hx1 : wr.cell? ⟨Bg, 0, none⟩ = some (.int .i64 s) := by simp [World.cell?, hgr]
    have hx2 : wr.cell? ⟨Bg, 1, none⟩ = some (.slice (some ⟨b, off, none⟩) n c0) := by simp [World.cell?, hgr]
    have hBgr : Bg < wr.heap.size := by omega
    have HRr := hid (HR.out.keep (hKH.out.2.1 b hb hbW))
    have hgcl := hS.out.1.lt
    have hgal := hS.out.2.lt
    clear hg1 hg2 hgr
    by_cases hlt : k < 3
    · have hlt' : (k : Int) < 3 := by omega
      have hkn : (k : Int) < (n : Int) := by omega
      have hke : k < es.length := by have := Hn.out; omega
      have hok := G.out.1.2 k hke
      have hs20 := G.out.1.1.2.1
      have hc1 := (HRr.out k hke).1
      have hc2 := (HRr.out k hke).2
      obtain ⟨X, hX1⟩ : ∃ X : Nat, eA es k = X := ⟨_, (Int.toNat_of_nonneg hok.1).symm⟩
      obtain ⟨Y, hY1⟩ : ∃ Y : Nat, eB es k = Y := ⟨_, (Int.toNat_of_nonneg hok.2.2.1).symm⟩
      have hX2 : X < 20 := by have := hok.2.1; omega
      have hY2 : Y < 20 := by have := hok.2.2.2.1; omega
      have hXY : ¬ X = Y := fun e => hok.2.2.2.2 (by rw [hX1, hY1, e])
      rw [hX1] at hc1
      rw [hY1] at hc2
      have hbr : b < wr.heap.size := by omega
      have HON := hid (show ((takeL es (rngI k) k).set (X * 3 + k) (!(eL (takeL es (rngI k) k) (X * 3 + k)))).set (Y * 3 + k) (!(eL (takeL es (rngI k) k) (Y * 3 + k))) = takeL es (rngI (k + 1)) (k + 1) by
        have h := turn_on (es := es) (c := rngI k) (X := X) (Y := Y) (C := k) (by rw [rngI_len]; exact hX1) (by rw [rngI_len]; exact hY1) hX2 hY2 hlt (rngI_fits es k)
        rwa [rngI_len, ← rngI_succ] at h)
      clear hok hs20 hX1 hY1
      obtain ⟨wo, rfl⟩ : ∃ wo : World, wo = wr := ⟨_, rfl⟩
      go_wp2_with fail
      refine (iTurn_any (W.heap.size + 1) X Y k (takeL es (rngI k) k) _ hX2 hY2 hXY hlt hS.out.2).mono ?_
      rw [HON.out]
      rintro e' w5 ⟨rfl, ho5, hg5⟩
      have HT5 := hid ho5
      have HO5 := hid (hS.out.1.keep (hg5.block _ hgcl (fun e => by have := Option.some.inj e; omega)))
      have HJ5 := hid (HJ.out _ _ w5 hJk.out ((Kept.refl (fun i => i ≠ W.heap.size ∧ i ≠ W.heap.size + 1) wo).row hg5 (fun r e h => h.2 (Option.some.inj e).symm)))
      have HK5 := hid (hKH.out.trans (KeptH.turn hS.out.2 hg5 (by omega)))
      have hz5 := hg5.size
      clear ho5 hg5
      go_wp2_with (at_builtin; go_must (refine wpList_append_fits _ rfl (.tmp 20) (.tmp 22) 25 rfl n0 2 i0 1 Try.underlying25 Hi.out hz1 W.heap.size k n (intVals (rngI k)) rfl (OwnI.row (HO5.out.on (on_alloc _ _)) (rngI_len k) (by omega)) ⟨w5.heap.size, 0, none⟩ 1 1 [.int .i64 k] rfl rfl (cell_one_new _ _ _) (by simp [Value.oneCell']) (by omega) ?_); intro w6 hown6 hg6)
      have HO6 := hid (OwnI.of_row (base := n0) (xs := rngI (k + 1)) (by rw [rngI_succ, intVals_append]; exact hown6) (rngI_len _)).1
      have HT6 := hid ((HT5.out.on (on_alloc _ _)).keep (hg6.block (W.heap.size + 1) (by simp; omega) (fun e => by have := Option.some.inj e; omega)))
      have HJ6 := hid (HJ.out _ _ w6 HJ5.out (((Kept.refl (fun i => i ≠ W.heap.size ∧ i ≠ W.heap.size + 1) w5).call (on_alloc _ _)).row hg6 (fun r e h => h.1 (Option.some.inj e).symm)))
      have HK6 := hid ((HK5.out.trans (KeptH.below (on_alloc _ _))).trans (KeptH.app (HO5.out.on (on_alloc _ _)) hg6 (by omega)))
      clear hown6 hg6
      go_roundw
      case rel => exact ⟨k + 1, by omega, rfl, by go_num, HJ6, hid ⟨HO6.out, HT6.out⟩, HK6⟩
      case measure => simp [intOf]; omega
    · obtain rfl : k = 3 := by omega
      have HL := hid (show nrmF es (n - 3) (rngI 3) = nrmL es by unfold nrmL; rw [Hn.out]; rfl)
      have h := HGO.out (n - 3) (rngI 3) [] wr (by rw [rngI_len]; omega) HRr.out hS.out.1 (by rw [rngI_len]; exact hS.out.2) hJk.out (by rw [HL.out]; simp)
      rw [rngI_len, HL.out] at h
      have HC := hid h
      clear h HGO
      go_wp2_with fail
      refine HC.out.mono ?_
      rintro e' w7 (⟨rfl, hJ7, _⟩ | ⟨rfl, q, hq, hx7⟩)
      · go_wp2
        go_end0
        exact ⟨⟨_, rfl⟩, .inl ⟨_, rfl, hJ7⟩⟩
      · go_wp2
        go_end0
        exact ⟨⟨_, rfl⟩, .inr ⟨_, hq, hx7⟩⟩

end Go.Proofs.Ytogdcoioflcdiaa
