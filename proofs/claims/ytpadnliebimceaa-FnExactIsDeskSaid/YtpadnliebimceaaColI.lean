/- The program's marks of colours at vertices. -/
import Derived.Test.YtpadnliebimceaaImplG
import Derived.Test.YtpadnliebimceaaLawsF
import Derived.Test.YtpadnliebimceaaCols
import Derived.Deep.RegionHeld3
import Derived.StillTailTactics
import Derived.BigQuiet
import Derived.BigRegion
namespace Go.Proofs.Ytpadnliebimceaa
open Go.RowKit

/-- A block that tells for each of 20 vertices which of three colours its edges have. -/
def OwnC (w : World) (g : Nat) (xs : List Bool) : Prop :=
  xs.length = 60 ∧ ∃ cur, w.heap[g]? = some (.cells cur 113 (0, 0)) ∧ cur.size = 60 ∧ ∀ i, i < 60 → cur[i]? = some (.bool (eL xs i))

section
variable {w w' : World} {g B : Nat} {xs : List Bool}
theorem OwnC.keep (h : OwnC w g xs) (hk : w'.heap[g]? = w.heap[g]?) : OwnC w' g xs := by
  obtain ⟨hl, cur, hc, r⟩ := h
  exact ⟨hl, cur, hk.trans hc, r⟩
theorem OwnC.lt (h : OwnC w g xs) : g < w.heap.size := by
  obtain ⟨_, cur, hc, r⟩ := h
  exact (Array.getElem?_eq_some_iff.1 hc).1
theorem OwnC.on (h : OwnC w g xs) (hb : Below w.heap.size w w') : OwnC w' g xs := h.keep (hb.block g h.lt)
theorem OwnC.far (h : OwnC w g xs) {a : Addr} (ha : g ≠ a.block) (v : Value) : OwnC (w.setCell a v) g xs := h.keep (heap_setCell_other w a g v ha)
theorem OwnC.cell (h : OwnC w g xs) {i : Nat} (hi : i < 60) : w.cell? ⟨g, i, none⟩ = some (.bool (eL xs i)) := by
  obtain ⟨_, cur, hc, _, r⟩ := h
  exact (cell_of_row w g _ cur _ _ hc).trans (r i hi)
theorem OwnC.free (h : OwnC w g xs) (j : Nat) : w.frozen? ⟨g, j, none⟩ = false := by
  obtain ⟨_, cur, hc, r⟩ := h
  exact frozen_of_row w g j cur _ hc
theorem OwnC.set (h : OwnC w g xs) {k : Nat} (hk : k < 60) (x : Bool) : OwnC (w.setCell ⟨g, k, none⟩ (.bool x)) g (xs.set k x) := by
  obtain ⟨hl, cur, hc, hs, r⟩ := h
  refine ⟨by rw [List.length_set]; exact hl, _, heap_setCell_same _ _ _ _ _ _ hc, by simp [hs], fun i hi => ?_⟩
  rw [eL_set (by omega)]
  by_cases e : i = k
  · subst e
    rw [if_pos rfl, Array.getElem?_setIfInBounds, if_pos rfl, if_pos (by omega)]
  · rw [if_neg e, Array.getElem?_setIfInBounds, if_neg (by omega), r i hi]
end

theorem g_alloc {a w : World} {row : Option Nat} (h : a.grownBy w row) (o : Obj) : a.grownBy (w.alloc o) row := ⟨h.os, h.tape, h.output, Nat.le_trans h.size (by simp), fun i hi hne => (Below.heap_alloc w o i (Nat.lt_of_lt_of_le hi h.size)).trans (h.block i hi hne)⟩
theorem g_drew {a w : World} {row : Option Nat} (h : a.grownBy w row) : a.grownBy w.drew row := ⟨h.os, h.tape, h.output, h.size, h.block⟩

theorem free_fits {es : List (Int × Int)} {c : List Int} {k X Y C : Nat} (hX : eA es k = X) (hY : eB es k = Y) (hX2 : X < 20) (hY2 : Y < 20) (hC2 : C < 3) :
    (!(eL (takeL es c k) (X * 3 + C)) && !(eL (takeL es c k) (Y * 3 + C))) = decide (fitsP es c k C) := by
  rw [takeL_at hX2 hC2, takeL_at hY2 hC2]
  by_cases h : fitsP es c k C
  · have h2 := fits_has.1 h
    rw [hX, hY] at h2
    rw [decide_eq_true h, decide_eq_false h2.1, decide_eq_false h2.2]; rfl
  · rw [decide_eq_false h]
    by_cases h1 : hasC es c k X C
    · rw [decide_eq_true h1]; rfl
    · by_cases h2 : hasC es c k Y C
      · rw [decide_eq_true h2]; simp
      · exact absurd (fits_has.2 ⟨by rw [hX]; exact h1, by rw [hY]; exact h2⟩) h

theorem turn_take {es : List (Int × Int)} {c : List Int} {k X Y C : Nat} (hX : eA es k = X) (hY : eB es k = Y) (hC : eI c k = C) (hX2 : X < 20) (hY2 : Y < 20) (hC2 : C < 3) (hf : fitsP es c k C) :
    ((takeL es c k).set (X * 3 + C) (!(eL (takeL es c k) (X * 3 + C)))).set (Y * 3 + C) (!(eL (takeL es c k) (Y * 3 + C))) = takeL es c (k + 1) := by
  have h2 := fits_has.1 hf
  rw [hX, hY] at h2
  rw [takeL_at hX2 hC2, takeL_at hY2 hC2, decide_eq_false h2.1, decide_eq_false h2.2]
  exact takeL_step hX hY hC hC2

set_option maxRecDepth 100000 in
set_option maxHeartbeats 4000000 in
theorem iFree_any (g X Y C : Nat) (ts : List Bool) (w : World) (hX : X < 20) (hY : Y < 20) (hC : C < 3) (ho : OwnC w g ts) :
    Calls Try.prog 96 #[.pointer (some ⟨g, 0, none⟩), .agg #[.int .i64 X, .int .i64 Y], .int .i64 C] w fun e w' => e = .returned (.bool (!(eL ts (X * 3 + C)) && !(eL ts (Y * 3 + C)))) ∧ Below w.heap.size w w' := by
  have h1 := ho.cell (i := X * 3 + C) (by omega)
  have h2 := ho.cell (i := Y * 3 + C) (by omega)
  have hg := ho.lt
  have hX' : (X : Int) < 20 := by omega
  have hY' : (Y : Int) < 20 := by omega
  have hC' : (C : Int) < 3 := by omega
  clear ho
  cases e1 : eL ts (X * 3 + C)
  all_goals
    cases e2 : eL ts (Y * 3 + C)
    all_goals
      rw [e1] at h1
      rw [e2] at h2
      clear e1 e2
      go_enter Try.func96, Try.ntmps96
      go_wp2
      go_quiet (fail)
      go_wp2
      go_ret
      exact ⟨rfl, by simp only [bdn]; go_grown⟩

set_option maxRecDepth 100000 in
set_option maxHeartbeats 4000000 in
theorem iTurn_any (g X Y C : Nat) (ts : List Bool) (w : World) (hX : X < 20) (hY : Y < 20) (hXY : ¬ X = Y) (hC : C < 3) (ho : OwnC w g ts) :
    Calls Try.prog 97 #[.pointer (some ⟨g, 0, none⟩), .agg #[.int .i64 X, .int .i64 Y], .int .i64 C] w fun e w' => e = .returned (.tuple #[]) ∧ OwnC w' g ((ts.set (X * 3 + C) (!(eL ts (X * 3 + C)))).set (Y * 3 + C) (!(eL ts (Y * 3 + C)))) ∧ w.grownBy w' (some g) := by
  have h1 := ho.cell (i := X * 3 + C) (by omega)
  have h2 := ho.cell (i := Y * 3 + C) (by omega)
  have f1 := ho.free (X * 3 + C)
  have f2 := ho.free (Y * 3 + C)
  have hg := ho.lt
  have hX' : (X : Int) < 20 := by omega
  have hY' : (Y : Int) < 20 := by omega
  have hC' : (C : Int) < 3 := by omega
  have hne : ¬ Y * 3 + C = X * 3 + C := by omega
  have HO := hid ho
  clear ho
  go_enter Try.func97, Try.ntmps97
  go_wp2
  go_region
  go_wp2
  go_region
  go_wp2
  go_end0
  exact ⟨rfl, OwnC.keep (w' := World.drew (World.drew _)) (((HO.out.set (by omega) _).set (by omega) _).on (on_alloc _ _)) rfl, g_drew (g_drew (g_alloc (gset (gset (World.grownBy.refl w _) _ _) _ _) _))⟩

set_option maxRecDepth 100000 in
set_option maxHeartbeats 2000000 in
theorem iColIs_len (s : Int) (p q : Option Addr) (n c m d : Nat) (w : World) (_hn : n ≤ 9223372036854775807) (_hm : m ≤ 9223372036854775807) (h : ¬ m = n) :
    Calls Try.prog 45 #[.agg #[.int .i64 s, .slice p n c], .slice q m d] w fun e' w' => e' = .returned (.bool false) ∧ Below w.heap.size w w' := by
  have h1 : ((m : Int) != (n : Int)) = true := by simp; omega
  clear h
  go_enter Try.func45, Try.ntmps45
  go_wp2
  go_ret
  exact ⟨rfl, by go_grown⟩

set_option maxRecDepth 100000 in
set_option maxHeartbeats 8000000 in
theorem iColIs_loop (s : Int) (b off n c cb co d : Nat) (es : List (Int × Int)) (cs : List Int) (w : World) (hG : IsG s es) (hn : es.length = n) (hr : ReadsE w b off es) (hm : cs.length = n) (hrc : ReadsI w cb co cs) :
    Calls Try.prog 45 #[.agg #[.int .i64 s, .slice (some ⟨b, off, none⟩) n c], .slice (some ⟨cb, co, none⟩) n d] w fun e' w' => e' = .returned (.bool (decide (isColP es cs))) ∧ Below w.heap.size w w' := by
  have Hn := hid hn
  have Hr := hid hr
  have HG := hid hG
  have Hm := hid hm
  have Hrc := hid hrc
  have hn30 : n ≤ 30 := by have := isG_len hG; omega
  have h1 : ((n : Int) != (n : Int)) = false := by simp
  obtain ⟨r, hR⟩ : ∃ r : Bool, r = decide (isColP es cs) := ⟨_, rfl⟩
  rw [← hR]
  have HR := hid hR
  clear hn hr hG hm hrc hR
  go_enter Try.func45, Try.ntmps45
  go_wp2
  go_loopw [17] (fun ee wr => ∃ k : Nat, k ≤ n ∧ ee = .int .i64 k ∧ Hid (∀ j, j < k → okCol es cs j) ∧ Hid (Below w.heap.size w wr) ∧ Hid (OwnC wr (w.heap.size + 1) (takeL es cs k))) (fun ee _ => n - (intOf ee).toNat)
  case atStart =>
    refine ⟨0, by omega, rfl, hid (fun j hj => by omega), hid (bfrom (on_alloc _ _) (on_alloc _ _)), hid ?_⟩
    rw [takeL_zero]
    refine ⟨by simp, Array.replicate 60 (Value.bool false), ?_, by simp, fun i hi => ?_⟩
    · have h := heap_alloc_new (w.alloc (.cells #[.int .i64 s, .slice (some ⟨b, off, none⟩) n c] 24)) (.cells (Array.replicate 60 (Value.bool false)) 113)
      simp only [World.size_alloc] at h
      exact h
    · have h0 : eL (List.replicate 60 false) i = false := by
        unfold eL
        rw [List.getD_eq_getElem?_getD, List.getElem?_replicate, if_pos hi]
        rfl
      rw [Array.getElem?_replicate, if_pos hi, h0]
  case round =>
    obtain ⟨k, hk, rfl, hE, hB, hT⟩ := hrel
    by_cases hlt : k < n
    · have hce := Hrc.out.on hB.out k (by have := Hm.out; omega)
      have hcl : cb < wr.heap.size := (Hrc.out.on hB.out).lt (by have := Hm.out; omega)
      have hbb : b < w.heap.size := reads_lt Hr.out (by have := Hn.out; omega)
      have hbr : b < wr.heap.size := by have := hB.out.size; omega
      have hc1 := (Hr.out.on hB.out k (by have := Hn.out; omega)).1
      have hc2 := (Hr.out.on hB.out k (by have := Hn.out; omega)).2
      have hok := HG.out.1.2 k (by have := Hn.out; omega)
      have hs20 := HG.out.1.1.2.1
      obtain ⟨X, hX1⟩ : ∃ X : Nat, eA es k = X := ⟨_, (Int.toNat_of_nonneg hok.1).symm⟩
      obtain ⟨Y, hY1⟩ : ∃ Y : Nat, eB es k = Y := ⟨_, (Int.toNat_of_nonneg hok.2.2.1).symm⟩
      have hX2 : X < 20 := by have := hok.2.1; omega
      have hY2 : Y < 20 := by have := hok.2.2.2.1; omega
      have hXY : ¬ X = Y := fun e => hok.2.2.2.2 (by rw [hX1, hY1, e])
      rw [hX1] at hc1
      rw [hY1] at hc2
      obtain ⟨v, hv⟩ : ∃ v, eI cs k = v := ⟨_, rfl⟩
      rw [hv] at hce
      have HV := hid hv
      have HX1 := hid hX1
      have HY1 := hid hY1
      clear hv hX1 hY1 hok hs20
      obtain ⟨wo, rfl⟩ : ∃ wo : World, wo = wr := ⟨_, rfl⟩
      have hTl := hT.out.lt
      by_cases g1 : 0 ≤ v ∧ v < 3
      · have G1 := hid g1
        obtain ⟨C, rfl⟩ : ∃ C : Nat, v = C := ⟨_, (Int.toNat_of_nonneg g1.1).symm⟩
        have hC2 : C < 3 := by omega
        clear g1
        obtain ⟨f, hf⟩ : ∃ f : Bool, decide (fitsP es cs k C) = f := ⟨_, rfl⟩
        have HF := hid hf
        have HFF := hid (free_fits HX1.out HY1.out hX2 hY2 hC2 (c := cs))
        clear hf
        cases f
        all_goals
          go_wp2
          go_region_held3 (fun w' => w'.cell? ⟨cb, co + k, none⟩ = some (.int .i64 C) ∧ w'.cell? ⟨wo.heap.size, 0, none⟩ = some (.int .i64 X) ∧ w'.cell? ⟨wo.heap.size, 1, none⟩ = some (.int .i64 Y))
            (first | go_keep | (exact ⟨hk1, hk2, hk3⟩))
            (first
              | (go_at_call 66; refine (iBelow_yes _ _ _ G1.out).mono ?_; rintro e' w' ⟨rfl, rfl⟩)
              | (go_at_call 96; refine (iFree_any _ X Y C (takeL es cs k) _ hX2 hY2 hC2 (OwnC.keep (w' := World.drew _) (hT.out.on (on_alloc _ _)) rfl)).mono ?_; rw [HFF.out, HF.out]; rintro e' w2 ⟨rfl, hb2⟩; have hz2 := hb2.size; have hk1 : w2.cell? ⟨cb, co + k, none⟩ = some (.int .i64 C) := ((bcells hb2).1 _ _ (by simp only [drew_size, World.size_alloc]; omega)).trans (by go_simp); have hk2 : w2.cell? ⟨wo.heap.size, 0, none⟩ = some (.int .i64 X) := ((bcells hb2).1 _ _ (by simp only [drew_size, World.size_alloc]; omega)).trans (by go_simp); have hk3 : w2.cell? ⟨wo.heap.size, 1, none⟩ = some (.int .i64 Y) := ((bcells hb2).1 _ _ (by simp only [drew_size, World.size_alloc]; omega)).trans (by go_simp)))
          go_wp2
        · go_ret
          refine ⟨?_, bfrom (bfrom hB.out (on_alloc _ _)).drew hb2⟩
          rw [HR.out, decide_eq_false (fun h => by have h2 := (h.2 k (by have := Hn.out; omega)).2; rw [HV.out] at h2; exact of_decide_eq_false HF.out h2)]
          rfl
        · simp only [drew_size, World.size_alloc] at hz2
          have hB2 := hid (bfrom (bfrom hB.out (on_alloc _ _)).drew hb2)
          have hT2 := hid (OwnC.on (OwnC.keep (w' := World.drew _) (hT.out.on (on_alloc _ _)) rfl) hb2)
          clear hb2
          go_still_tail 5, (by kernel_rfl)
          go_wp2_with fail
          refine (iTurn_any _ X Y C (takeL es cs k) _ hX2 hY2 hXY hC2 (OwnC.keep (w' := World.drew _) hT2.out rfl)).mono ?_
          rw [turn_take HX1.out HY1.out HV.out hX2 hY2 hC2 (of_decide_eq_true HF.out)]
          rintro e' w3 ⟨rfl, ho3, hg3⟩
          go_wp2
          go_roundw
          case rel =>
            refine ⟨k + 1, by omega, by go_num, hid (fun j hj => ?_), hid (hB2.out.drew.grown hg3 hB2.out.size (fun k' hk' => by have := Option.some.inj hk'; omega)), hid ho3⟩
            rcases Nat.lt_or_ge j k with h | h
            · exact hE.out j h
            · obtain rfl : j = k := by omega
              refine ⟨?_, ?_⟩
              · rw [HV.out]; exact G1.out
              · rw [HV.out]; exact of_decide_eq_true HF.out
          case measure => simp [intOf]; omega
      · have G1 := hid g1
        clear g1
        go_wp2
        go_quiet ((go_at_call 66; exact quiet_same (iBelow_no _ _ _ G1.out)))
        go_wp2
        go_ret
        refine ⟨?_, by simp only [bdn]; exact bfrom hB.out (on_alloc _ _)⟩
        rw [HR.out, decide_eq_false (fun h => by have h2 := (h.2 k (by have := Hn.out; omega)).1; rw [HV.out] at h2; exact G1.out h2)]
        rfl
    · obtain rfl : k = n := by omega
      go_wp2
      go_ret
      refine ⟨?_, hB.out⟩
      rw [HR.out, decide_eq_true (show isColP es cs from ⟨Hm.out.trans Hn.out.symm, fun j hj => hE.out j (by have := Hn.out; omega)⟩)]
      rfl

theorem iColIs_any (s : Int) (p q : Option Addr) (n c m d : Nat) (es : List (Int × Int)) (cs : List Int) (w : World) (hG : IsG s es) (hn : es.length = n) (hr : SeesE w p es) (hm : cs.length = m) (hm2 : m ≤ 1048576) (hrc : SeesI w q cs) :
    Calls Try.prog 45 #[.agg #[.int .i64 s, .slice p n c], .slice q m d] w fun e' w' => e' = .returned (.bool (decide (isColP es cs))) ∧ Below w.heap.size w w' := by
  have hl := isG_len hG
  by_cases h : m = n
  · subst h
    obtain ⟨b, off, rfl, rd⟩ := isG_sees hG hr
    obtain ⟨cb, co, rfl, rc⟩ : ∃ b o, q = some ⟨b, o, none⟩ ∧ ReadsI w b o cs := by
      rcases hrc with rfl | h2
      · exact absurd hG.1.1.2.2.2 (by have := hG.1.1.1; simp at hm; omega)
      · exact h2
    exact iColIs_loop s b off m c cb co d es cs w hG hn rd hm rc
  · refine (iColIs_len s p q n c m d w (by omega) (by omega) h).mono fun e w' ⟨he, hb⟩ => ⟨?_, hb⟩
    rw [he, decide_eq_false (fun e => h (by rw [← hm, ← hn]; exact e.1))]

end Go.Proofs.Ytpadnliebimceaa
