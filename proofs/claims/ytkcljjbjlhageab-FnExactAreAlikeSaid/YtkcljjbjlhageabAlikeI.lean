/- Colourings that are alike, in the program. -/
import Derived.Test.YtkcljjbjlhageabAlikeT
namespace Go.Proofs.Ytkcljjbjlhageab
open Go.RowKit

set_option maxRecDepth 100000 in
set_option maxHeartbeats 2000000 in
theorem equalI_cells (b off b' off' n c d : Nat) (xs ys : List Int) (w : World) (hx : xs.length = n) (hy : ys.length = n) (hn : n ≤ 9223372036854775807) (hr : ReadsI w b off xs) (hs : ReadsI w b' off' ys) :
    Calls Try.prog 67 #[.slice (some ⟨b, off, none⟩) n c, .slice (some ⟨b', off', none⟩) n d] w fun e w' => e = .returned (.bool (xs == ys)) ∧ Below w.heap.size w w' := by
  have Hx := hid hx
  have Hy := hid hy
  have Hr := hid hr
  have Hs := hid hs
  clear hx hy hr hs
  go_enter Try.func67, Try.ntmps67
  go_wp2
  go_loopw [13] (fun i wr => ∃ k : Nat, k ≤ n ∧ i = .int .i64 k ∧ Hid (xs.take k = ys.take k) ∧ Below w.heap.size w wr) (fun i _ => n - (intOf i).toNat)
  case atStart => exact ⟨0, Nat.zero_le _, rfl, hid rfl, Below.refl _ _⟩
  case round =>
    obtain ⟨k, hk, rfl, hE, hB⟩ := hrel
    by_cases hlt : k < n
    · have hbb : b < w.heap.size := Hr.out.lt (by have := Hx.out; omega)
      have hbb' : b' < w.heap.size := Hs.out.lt (by have := Hy.out; omega)
      have hc1 := Hr.out.on hB k (by have := Hx.out; omega)
      have hc3 := Hs.out.on hB k (by have := Hy.out; omega)
      by_cases hh : eI xs k = eI ys k
      · have HH := hid hh
        have g1 : (eI xs k != eI ys k) = false := by simpa using hh
        clear hh
        go_wp2
        go_quiet (fail)
        go_wp2
        go_roundw
        case rel => exact ⟨k + 1, by omega, by go_num, hid (take_step_int Hx.out Hy.out hlt hE.out HH.out), by simp only [bdn]; exact hB⟩
        case measure => simp [intOf]; omega
      · have HH := hid hh
        have g1 : (eI xs k != eI ys k) = true := by simpa using hh
        clear hh
        go_wp2
        go_quiet (fail)
        go_wp2
        go_ret
        exact ⟨by rw [ne_at HH.out]; rfl, by simp only [bdn]; exact hB⟩
    · go_wp2
      go_ret
      obtain rfl : k = n := by omega
      have h := hE.out
      rw [List.take_of_length_le (by have := Hx.out; omega), List.take_of_length_le (by have := Hy.out; omega)] at h
      exact ⟨by rw [h]; simp, hB⟩

/-- A block of three names. -/
def OwnN (w : World) (g : Nat) (xs : List Int) : Prop :=
  xs.length = 3 ∧ ∃ cur, w.heap[g]? = some (.cells cur 109 (0, 0)) ∧ cur.size = 3 ∧ ∀ i, i < 3 → cur[i]? = some (.int .i64 (eI xs i))

section
variable {w w' : World} {g B : Nat} {xs : List Int}
theorem OwnN.keep (h : OwnN w g xs) (hk : w'.heap[g]? = w.heap[g]?) : OwnN w' g xs := by
  obtain ⟨hl, cur, hc, r⟩ := h
  exact ⟨hl, cur, hk.trans hc, r⟩
theorem OwnN.lt (h : OwnN w g xs) : g < w.heap.size := by
  obtain ⟨_, cur, hc, r⟩ := h
  exact (Array.getElem?_eq_some_iff.1 hc).1
theorem OwnN.on (h : OwnN w g xs) (hb : Below w.heap.size w w') : OwnN w' g xs := h.keep (hb.block g h.lt)
theorem OwnN.far (h : OwnN w g xs) {a : Addr} (ha : g ≠ a.block) (v : Value) : OwnN (w.setCell a v) g xs := h.keep (heap_setCell_other w a g v ha)
theorem OwnN.cell (h : OwnN w g xs) {i : Nat} (hi : i < 3) : w.cell? ⟨g, i, none⟩ = some (.int .i64 (eI xs i)) := by
  obtain ⟨_, cur, hc, _, r⟩ := h
  exact (cell_of_row w g _ cur _ _ hc).trans (r i hi)
theorem OwnN.free (h : OwnN w g xs) (j : Nat) : w.frozen? ⟨g, j, none⟩ = false := by
  obtain ⟨_, cur, hc, r⟩ := h
  exact frozen_of_row w g j cur _ hc
theorem OwnN.set (h : OwnN w g xs) {k : Nat} (hk : k < 3) (x : Int) : OwnN (w.setCell ⟨g, k, none⟩ (.int .i64 x)) g (xs.set k x) := by
  obtain ⟨hl, cur, hc, hs, r⟩ := h
  refine ⟨by rw [List.length_set]; exact hl, _, heap_setCell_same _ _ _ _ _ _ hc, by simp [hs], fun i hi => ?_⟩
  rw [eI_set (by omega)]
  by_cases e : i = k
  · subst e
    rw [if_pos rfl, Array.getElem?_setIfInBounds, if_pos rfl, if_pos (by omega)]
  · rw [if_neg e, Array.getElem?_setIfInBounds, if_neg (by omega), r i hi]
end
theorem ownN_new (w : World) (g : Nat) (hg : g = w.heap.size) : OwnN (w.alloc (.cells #[.int .i64 0, .int .i64 0, .int .i64 0] 109)) g [0, 0, 0] := by
  subst hg
  refine ⟨rfl, _, heap_alloc_new w _, rfl, fun i hi => ?_⟩
  rcases (by omega : i = 0 ∨ i = 1 ∨ i = 2) with rfl | rfl | rfl <;> rfl

/-- The renamed colours of the first edges, and 0 behind them. -/
def normZ (c : List Int) (n k : Nat) : List Int := normU c k ++ List.replicate (n - k) 0
theorem normZ_length {c : List Int} {n k : Nat} (hl : c.length = n) (h : k ≤ n) : (normZ c n k).length = n := by
  unfold normZ
  rw [List.length_append, normU_length (by omega), List.length_replicate]
  omega
theorem normZ_step {c : List Int} {n k C : Nat} (hl : c.length = n) (h : k < n) (hC : eI c k = C) : (normZ c n k).set k (eI (nameL c 3) C) = normZ c n (k + 1) := by
  unfold normZ
  have h1 : (normU c k).length = k := normU_length (by omega)
  rw [List.set_append, if_neg (by omega), h1, Nat.sub_self, normU_step (by omega) hC]
  obtain ⟨j, hj⟩ : ∃ j, n - k = j + 1 := ⟨n - k - 1, by omega⟩
  have hj2 : n - (k + 1) = j := by omega
  rw [hj, hj2, List.replicate_succ, List.set_cons_zero, List.append_assoc]
  rfl

set_option maxRecDepth 100000 in
set_option maxHeartbeats 4000000 in
theorem iNorm_any (cb co n d : Nat) (es : List (Int × Int)) (cs : List Int) (w : World) (hn : es.length = n) (h3 : 3 ≤ n) (h30 : n ≤ 30) (hl : cs.length = n) (hrc : ReadsI w cb co cs) (gc : isColP es cs) :
    Calls Try.prog 68 #[.slice (some ⟨cb, co, none⟩) n d] w fun e w' => ∃ q cap, e = .returned (.slice q n cap) ∧ FreshI w.heap.size w' q n cap (normL cs) ∧ Below w.heap.size w w' := by
  have Hn := hid hn
  have Hl := hid hl
  have Hrc := hid hrc
  have Gc := hid gc
  obtain ⟨j0, hj, hy0, hy1, hy2⟩ := info_parts infoInt
  have Hj := hid hj
  clear hn hl hrc gc hj
  go_enter Try.func68, Try.ntmps68
  go_wp2
  go_loopw [8] (fun ii wr => ∃ i : Nat, i ≤ 3 ∧ ii = .int .i64 i ∧ Hid (OwnN wr w.heap.size (nameL cs i)) ∧ Hid (Below w.heap.size w wr)) (fun ii _ => 3 - (intOf ii).toNat)
  case atStart => exact ⟨0, by omega, rfl, hid (ownN_new w _ rfl), hid (on_alloc _ _)⟩
  case round =>
    obtain ⟨i, hi, rfl, hN, hB⟩ := hrel
    by_cases hlt : i < 3
    · have hcb : cb < wr.heap.size := (Hrc.out.on hB.out).lt (by have := Hl.out; omega)
      have hcc := Hrc.out.on hB.out i (by have := Hl.out; omega)
      have gco := (Gc.out.2 i (by have := Hn.out; omega)).1
      obtain ⟨C, hC1⟩ : ∃ C : Nat, eI cs i = C := ⟨_, (Int.toNat_of_nonneg gco.1).symm⟩
      have hC3 : C < 3 := by omega
      have hC3' : (C : Int) < 3 := by omega
      rw [hC1] at hcc
      have HC1 := hid hC1
      have hfz := hN.out.free C
      have hgz := hN.out.lt
      have hi3 : (i : Int) < 3 := by omega
      have hin : (i : Int) < (n : Int) := by omega
      have hcell := hN.out.cell (i := C) hC3
      clear hC1 gco
      go_wp2
      go_roundw
      case rel =>
        refine ⟨i + 1, by omega, by go_num, hid ?_, hid (hB.out.setCell (p := ⟨w.heap.size, C, none⟩) (Nat.le_refl _) _)⟩
        have h := OwnN.set hN.out (k := C) hC3 (i : Int)
        rw [nameL, HC1.out]
        exact h
      case measure => simp [intOf]; omega
    · have hi3 : Hid (i = 3) := hid (by omega)
      have g3 : decide ((i : Int) < 3) = false := by simp; omega
      obtain ⟨wk, rfl⟩ : ∃ wk : World, wk = wr := ⟨_, rfl⟩
      have hwk : w.heap.size < wk.heap.size := hN.out.lt
      go_wp2_with (at_make; refine wpList_make_full _ rfl _ _ 25 rfl wk.heap.size 2 j0 (.int .i64 0) 1 Try.underlying25 Hj.out hy0 hy1 _ _ _ _ n rfl rfl rfl rfl (by rw [hy2]; omega) (by unfold maxLen; omega) (Nat.le_refl _) ?_; intro w4 hown hgrow)
      have Ho4 := hid (OwnI.made hown)
      have Hb4 := hid ((Below.refl wk.heap.size wk).grown hgrow (Nat.le_refl _) (fun k e => by cases e))
      clear hown hgrow
      have HN3 := hid (OwnN.on (hi3.out ▸ hN.out) Hb4.out)
      go_loopw [23] (fun ee wr => ∃ e : Nat, e ≤ n ∧ ee = .int .i64 e ∧ Hid (OwnI wr wk.heap.size n (normZ cs n e)) ∧ Hid (OwnN wr w.heap.size (nameL cs 3)) ∧ Hid (Below wk.heap.size wk wr)) (fun ee _ => n - (intOf ee).toNat)
      case atStart => exact ⟨0, by omega, rfl, hid (by have h := Ho4.out; simpa [normZ, normU] using h), HN3, Hb4⟩
      case round =>
        obtain ⟨e, he, rfl, hO, hN2, hBe⟩ := hrel
        have hbw := hid (bfrom hB.out hBe.out)
        by_cases hle : e < n
        · have hcb : cb < wr.heap.size := (Hrc.out.on hbw.out).lt (by have := Hl.out; omega)
          have hcc := Hrc.out.on hbw.out e (by have := Hl.out; omega)
          have gco := (Gc.out.2 e (by have := Hn.out; omega)).1
          obtain ⟨C, hC1⟩ : ∃ C : Nat, eI cs e = C := ⟨_, (Int.toNat_of_nonneg gco.1).symm⟩
          have hC3 : C < 3 := by omega
          have hC3' : (C : Int) < 3 := by omega
          rw [hC1] at hcc
          have htk := hid (normZ_step Hl.out hle hC1)
          have hgz := hN2.out.lt
          have hcell := hN2.out.cell (i := C) hC3
          obtain ⟨z, hz⟩ : ∃ z, eI (nameL cs 3) C = z := ⟨_, rfl⟩
          rw [hz] at hcell
          have HZ := hid hz
          have hoz := hO.out.lt
          have hof := hO.out.free e
          have hoc := hO.out.reads e (by rw [normZ_length Hl.out he]; exact hle)
          rw [Nat.zero_add] at hoc
          clear hC1 gco hz
          go_wp2
          go_roundw
          case rel =>
            refine ⟨e + 1, by omega, by go_num, hid ?_, hid (hN2.out.far (by dsimp only; omega) _), hid (hBe.out.setCell (p := ⟨wk.heap.size, e, none⟩) (Nat.le_refl _) _)⟩
            have h := OwnI.set hO.out (k := e) (by rw [normZ_length Hl.out he]; exact hle) z
            rw [← htk.out, HZ.out]
            exact h
          case measure => simp [intOf]; omega
        · obtain rfl : e = n := by omega
          go_wp2
          go_ret
          have hz : normZ cs e e = normL cs := by unfold normZ normL; rw [Nat.sub_self, Hl.out]; simp
          have ho := hO.out
          rw [hz] at ho
          exact ⟨_, _, rfl, FreshI.less (FreshI.of_own ho (by rw [← hz]; exact normZ_length Hl.out (Nat.le_refl _)) (Nat.le_refl _)) (by omega), hbw.out⟩

end Go.Proofs.Ytkcljjbjlhageab
