/- Double covers: what the model's and the program's tests share (cut out of LawIsDoubleCover). -/
import Derived.Test.YtfdlhdgmbjdhbaaCycQ
import Derived.Test.YtfdlhdgmbjdhbaaLists
import Derived.StillTailTactics
import Derived.Test.YtfdlhdgmbjdhbaaEdgM
import Derived.Test.YtfdlhdgmbjdhbaaSetsI
import Derived.Test.YtfdlhdgmbjdhbaaLawsF
import Derived.Deep.RegionWith
import Derived.Deep.DeepCutAuto

/- IsDoubleCover at any argument, in the model and in the program. -/
/- Double covers, plainly: how often an edge stands in the sets of a list. No program is named here. -/
namespace Go.Proofs.Ytfdlhdgmbjdhbaa
open Go.RowKit

/-- One more at a place. -/
def incL (c : List Int) (e : Nat) : List Int := c.set e (eI c e + 1)
/-- One more at the first k entries of a list. -/
def incU (c xs : List Int) : Nat → List Int
  | 0 => c
  | k + 1 => incL (incU c xs k) (eI xs k).toNat
/-- The counts after the first i lists. -/
def dcU (m : Nat) (Ls : List (List Int)) : Nat → List Int
  | 0 => List.replicate m 0
  | i + 1 => incU (dcU m Ls i) (lI Ls i) (lI Ls i).length
theorem incU_len (c xs : List Int) : ∀ k, (incU c xs k).length = c.length
  | 0 => rfl
  | k + 1 => by
    show (incL _ _).length = _
    unfold incL
    rw [List.length_set, incU_len c xs k]
theorem dcU_len (m : Nat) (Ls : List (List Int)) : ∀ i, (dcU m Ls i).length = m
  | 0 => by simp [dcU]
  | i + 1 => by
    show (incU _ _ _).length = _
    rw [incU_len, dcU_len m Ls i]
theorem incL_le {c : List Int} {e i : Nat} {B : Int} (h : ∀ j, 0 ≤ eI c j ∧ eI c j ≤ B) : 0 ≤ eI (incL c e) i ∧ eI (incL c e) i ≤ B + 1 := by
  unfold incL
  by_cases he : e < c.length
  · rw [eI_set he]
    split
    · have := h e; omega
    · have := h i; omega
  · rw [List.set_eq_of_length_le (by omega)]
    have := h i
    omega
theorem incU_le {c xs : List Int} {B : Int} (h : ∀ j, 0 ≤ eI c j ∧ eI c j ≤ B) : ∀ k j, 0 ≤ eI (incU c xs k) j ∧ eI (incU c xs k) j ≤ B + k
  | 0, j => by have := h j; simpa [incU] using this
  | k + 1, j => by
    have := incL_le (c := incU c xs k) (e := (eI xs k).toNat) (i := j) (incU_le (xs := xs) h k)
    show 0 ≤ eI (incL _ _) j ∧ eI (incL _ _) j ≤ _
    omega
theorem dcU_le {m : Nat} {Ls : List (List Int)} (hl : ∀ i, i < Ls.length → (lI Ls i).length ≤ 30) : ∀ i, i ≤ Ls.length → ∀ j, 0 ≤ eI (dcU m Ls i) j ∧ eI (dcU m Ls i) j ≤ 30 * i
  | 0, _, j => by
    show 0 ≤ eI (List.replicate m 0) j ∧ eI (List.replicate m 0) j ≤ _
    have : eI (List.replicate m 0) j = 0 := by
      unfold eI
      rw [List.getD_eq_getElem?_getD, List.getElem?_replicate]
      split <;> rfl
    omega
  | i + 1, hi, j => by
    have h1 := incU_le (c := dcU m Ls i) (xs := lI Ls i) (dcU_le (m := m) hl i (by omega)) (lI Ls i).length j
    have h2 := hl i (by omega)
    show 0 ≤ eI (incU _ _ _) j ∧ eI (incU _ _ _) j ≤ _
    omega
/-- All are cycles, and each edge stands in two of them. -/
def dblP (N : Nat) (es : List (Int × Int)) (Ls : List (List Int)) : Prop := (∀ i, i < Ls.length → cycP N es (lI Ls i)) ∧ ∀ e, e < es.length → eI (dcU es.length Ls Ls.length) e = 2
instance (N : Nat) (es : List (Int × Int)) (Ls : List (List Int)) : Decidable (dblP N es Ls) := by unfold dblP; infer_instance

end Go.Proofs.Ytfdlhdgmbjdhbaa

/- Double covers in the model: l07Double. -/
namespace Go.Proofs.Ytfdlhdgmbjdhbaa
open Go.RowKit

theorem own_zerosD {ZC : Array Value} (w : World) (g n : Nat) (hZ : ZC = madeCells (Value.int .i64 0).cells (n * 1)) (hg : g = w.heap.size) (hn : n ≤ 30) : OwnI (w.alloc (.cells ZC 2)) g n (List.replicate n 0) := by
  subst hZ hg
  refine ⟨_, heap_alloc_new w _, by rw [size_madeCells, Nat.mul_one], by simp, by unfold maxLen; omega, fun i hi => ?_⟩
  have hi' : i < n := by simpa using hi
  rw [eI_lt (by simpa using hi')]
  simp [madeCells, hi', Value.cells, Nat.mod_one]

set_option maxRecDepth 100000 in
set_option maxHeartbeats 8000000 in
theorem sDouble_any (N b off n c m mc : Nat) (pq : Option Addr) (es : List (Int × Int)) (Ls : List (List Int)) (w : World) (hn : es.length = n) (hr : ReadsE w b off es) (g : IsG N es) (hL : Ls.length = m) (hm9 : m ≤ 1048576) (hrl : SeesL w pq Ls) (gs : ∀ i, i < m → isSetP n (lI Ls i)) :
    Calls Try.prog 56 #[.agg #[.int .i64 N, .slice (some ⟨b, off, none⟩) n c], .slice pq m mc] w fun e' w' => e' = .returned (.bool (decide (dblP N es Ls))) ∧ Below w.heap.size w w' := by
  have hn30 : n ≤ 30 := by have := isG_len g; omega
  have hbl : b < w.heap.size := reads_lt hr (by have := g.1.1.2.2.2; have := g.1.1.1; omega)
  have Hn := hid hn
  have Hr := hid hr
  have G := hid g
  have HL := hid hL
  have Hrl := hid hrl
  have GS := hid gs
  obtain ⟨j0, hj, hy0, hy1, hy2⟩ := info_parts infoInt
  obtain ⟨r, hR⟩ : ∃ r, decide (dblP N es Ls) = r := ⟨_, rfl⟩
  rw [hR]
  have HR := hid hR
  have hmk0 : ∀ w', (Instr.makeSlice 41 (.int .i64 n) (.int .i64 n)).run Try.prog w' = .ok (.slice (some ⟨w'.heap.size, 0, none⟩) n n) (w'.alloc (.cells (madeCells (Value.int .i64 0).cells (n * 1)) 2)) := fun w' => by
    have h := run_makeSlice (P := Try.prog) w' 41 2 j0 (.int .i64 0) Try.underlying41 hj hy0 .i64 .i64 n n (by omega) (Int.le_refl _) (by rw [hy1]; omega) (by rw [hy2]; omega) (by omega)
    rw [hy1] at h
    simpa using h
  obtain ⟨ZC, hZC⟩ : ∃ ZC, ZC = madeCells (Value.int .i64 0).cells (n * 1) := ⟨_, rfl⟩
  have hmk : ∀ w', (Instr.makeSlice 41 (.int .i64 n) (.int .i64 n)).run Try.prog w' = .ok (.slice (some ⟨w'.heap.size, 0, none⟩) n n) (w'.alloc (.cells ZC 2)) := by rw [hZC]; exact hmk0
  have HZC := hid hZC
  clear hn hr g hL hrl gs hR hj hmk0 hZC
  go_enter Try.func56, Try.ntmps56
  have HX0 := hid (Box.new w N (some ⟨b, off, none⟩) n c 28)
  have HB0 := hid (on_alloc w (.cells #[.int .i64 N, .slice (some ⟨b, off, none⟩) n c] 28))
  go_wp2
  obtain ⟨w2, hw2⟩ : ∃ w2, w2 = w.alloc (.cells #[.int .i64 N, .slice (some ⟨b, off, none⟩) n c] 28) := ⟨_, rfl⟩
  have HS2 := hid (show w2.heap.size = w.heap.size + 1 by rw [hw2]; simp)
  rw [← hw2] at HX0 HB0 ⊢
  clear hw2
  obtain ⟨w3, hw3⟩ : ∃ w3, w3 = w2.alloc (.cells ZC 2) := ⟨_, rfl⟩
  rw [← hw3]
  have HB3 := hid (show Below w2.heap.size w2 w3 by rw [hw3]; exact on_alloc _ _)
  have HO3 := hid (show OwnI w3 w2.heap.size n (dcU n Ls 0) by
    rw [hw3]
    exact own_zerosD w2 _ n HZC.out rfl hn30)
  clear hw3
  have hs0 : w2.heap.size = w.heap.size + 1 := HS2.out
  go_loopw [6] (fun i wr => ∃ j : Nat, j ≤ m ∧ i = .int .i64 j ∧ Hid (∀ a, a < j → cycP N es (lI Ls a)) ∧ Hid (OwnI wr w2.heap.size n (dcU n Ls j)) ∧ Hid (Below w2.heap.size w2 wr)) (fun i _ => m - (intOf i).toNat)
  case atStart => exact ⟨0, Nat.zero_le _, rfl, hid (fun e he => absurd he (by omega)), HO3, HB3⟩
  case round =>
    obtain ⟨j, hj, rfl, hC, hO, hB⟩ := hrel
    clear HO3 HB3
    have hBs := hB.out.size
    have HBw := hid (bfrom HB0.out hB.out)
    have HXr := hid (HX0.out.on hB.out)
    have hxr := HXr.out.1
    have hyr := HXr.out.2
    have hzr := HXr.out.lt
    obtain ⟨wi, rfl⟩ : ∃ wi : World, wi = wr := ⟨_, rfl⟩
    by_cases hlt : j < m
    · have hlt' : (j : Int) < (m : Int) := by omega
      obtain ⟨b1, o1, rfl, hrd⟩ : ∃ b1 o1, pq = some ⟨b1, o1, none⟩ ∧ ReadsL w b1 o1 Ls := by
        rcases Hrl.out with h | h
        · have := HL.out; rw [h] at this; simp at this; omega
        · exact h
      obtain ⟨q', c', hcell, hsee⟩ := hrd j (by rw [HL.out]; exact hlt)
      have hb1w := World.block_lt_of_cell? w _ hcell
      dsimp only at hb1w
      have hc1 := (World.cell?_of_block (w := w) (w' := wi) (a := ⟨b1, o1 + j, none⟩) (HBw.out.block b1 hb1w)).trans hcell
      have hb1i : b1 < wi.heap.size := by have := HBw.out.size; omega
      obtain ⟨xs, hxs⟩ : ∃ xs, lI Ls j = xs := ⟨_, rfl⟩
      rw [hxs] at hc1 hsee hcell
      obtain ⟨l, hl⟩ : ∃ l, xs.length = l := ⟨_, rfl⟩
      rw [hl] at hc1 hcell
      have HXs := hid hxs
      have HLl := hid hl
      have HSee := hid hsee
      have HCell := hid hcell
      have HG := hid (show isSetP n xs by have h := GS.out j hlt; rwa [hxs] at h)
      have hl30 : l ≤ 30 := by have := set_len HG.out; omega
      clear hrd hcell hsee hxs hl
      have hcall := fun w5 => sIsCyc_any N b off n c q' l c' es xs w5
      by_cases hcy : cycP N es xs
      · have HCY := hid hcy
        clear hcy hcall
        go_wp2
        go_still_tail 5, (by kernel_rfl)
        go_wp2_with fail
        refine (sIsCyc_any N b off n c q' l c' es xs _ Hn.out (Hr.out.on (bfrom HBw.out (Below.refl _ _).drew)) G.out HLl.out (HSee.out.on (bfrom HBw.out (Below.refl _ _).drew)) HG.out).mono ?_
        rw [decide_eq_true HCY.out]
        rintro e' w5 ⟨rfl, hb5⟩
        have HB5 := hid (show Below wi.heap.size wi w5 from ⟨hb5.os, hb5.tape, hb5.output, hb5.size, hb5.block⟩)
        have HO5 := hid (hO.out.on HB5.out)
        have HB25 := hid (bfrom hB.out HB5.out)
        clear hb5 hxr hyr hc1
        go_wp2
        go_loopw [7] (fun i wx => ∃ k : Nat, k ≤ l ∧ i = .int .i64 k ∧ Hid (OwnI wx w2.heap.size n (incU (dcU n Ls j) xs k)) ∧ Hid (Below w2.heap.size w2 wx)) (fun i _ => l - (intOf i).toNat)
        case atStart => exact ⟨0, Nat.zero_le _, rfl, HO5, HB25⟩
        case round =>
          obtain ⟨k, hk, rfl, hOk, hBk⟩ := hrel
          clear HO5 HB25
          have hBks := hBk.out.size
          have HBkw := hid (bfrom HB0.out hBk.out)
          have hck := (World.cell?_of_block (w := w) (w' := wr) (a := ⟨b1, o1 + j, none⟩) (HBkw.out.block b1 hb1w)).trans HCell.out
          have hb1k : b1 < wr.heap.size := by have := HBkw.out.size; omega
          obtain ⟨wx, rfl⟩ : ∃ wx : World, wx = wr := ⟨_, rfl⟩
          by_cases hlk : k < l
          · have hlk' : (k : Int) < (l : Int) := by omega
            have hkx : k < xs.length := by have := HLl.out; omega
            obtain ⟨b2, o2, rfl, hrd2⟩ : ∃ b2 o2, q' = some ⟨b2, o2, none⟩ ∧ ReadsI w b2 o2 xs := by
              rcases HSee.out with h | h
              · rw [h] at hkx; simp at hkx
              · exact h
            have hb2w := hrd2.lt (show 0 < xs.length by omega)
            have hb2k : b2 < wx.heap.size := by have := HBkw.out.size; omega
            have hce := (hrd2.on HBkw.out) k hkx
            obtain ⟨E, hE⟩ : ∃ E : Nat, eI xs k = E := ⟨_, (Int.toNat_of_nonneg (HG.out k hkx).1.1).symm⟩
            have hEn : E < n := by have := (HG.out k hkx).1.2; omega
            have hEn' : (E : Int) < (n : Int) := by omega
            rw [hE] at hce
            have hlen : (incU (dcU n Ls j) xs k).length = n := by rw [incU_len, dcU_len]
            have hcE := hOk.out.reads E (by omega)
            rw [Nat.zero_add] at hcE
            have hfE := hOk.out.free E
            have hgz := hOk.out.lt
            have hbd := incU_le (c := dcU n Ls j) (xs := xs) (dcU_le (m := n) (Ls := Ls) (fun i hi => by have h1 := set_len (GS.out i (by rw [← HL.out]; exact hi)); omega) j (by rw [HL.out]; omega)) k E
            obtain ⟨X, hX⟩ : ∃ X, eI (incU (dcU n Ls j) xs k) E = X := ⟨_, rfl⟩
            rw [hX] at hcE hbd
            have hX1 : X < 9223372036854775000 := by omega
            have hX0 := hbd.1
            have HST := hid (show incU (dcU n Ls j) xs (k + 1) = (incU (dcU n Ls j) xs k).set E (X + 1) by
              show incL _ _ = _
              unfold incL
              rw [hE, Int.toNat_natCast, hX])
            have HLn := hid hlen
            rw [hs0] at hcE hfE hgz
            clear hrd2 hE hX hbd hlen
            go_wp2
            go_roundw
            case rel => exact ⟨k + 1, by omega, by go_num, hid (by rw [HST.out, ← hs0]; exact hOk.out.set (by rw [HLn.out]; exact hEn) _), hid (hBk.out.setCell (p := ⟨w.heap.size + 1, E, none⟩) (by show w2.heap.size ≤ w.heap.size + 1; omega) _)⟩
            case measure => simp [intOf]; omega
          · have hkl := hid (show k = l by omega)
            go_wp2
            go_roundw
            case rel => exact ⟨j + 1, by omega, by go_num, hid (fun a ha => by
              by_cases h : a = j
              · subst h; rw [HXs.out]; exact HCY.out
              · exact hC.out a (by omega)), hid (by
              show OwnI wx w2.heap.size n (incU (dcU n Ls j) (lI Ls j) (lI Ls j).length)
              rw [HXs.out, HLl.out, ← hkl.out]
              exact hOk.out), hBk⟩
            case measure => simp [intOf]; omega
      · have HCY := hid hcy
        have HF := hid (show r = false by rw [← HR.out]; exact decide_eq_false (fun h => hcy (by have h2 := h.1 j (by rw [HL.out]; exact hlt); rwa [HXs.out] at h2)))
        clear hcy hcall
        go_wp2
        go_still_tail 5, (by kernel_rfl)
        go_wp2_with fail
        refine (sIsCyc_any N b off n c q' l c' es xs _ Hn.out (Hr.out.on (bfrom HBw.out (Below.refl _ _).drew)) G.out HLl.out (HSee.out.on (bfrom HBw.out (Below.refl _ _).drew)) HG.out).mono ?_
        rw [decide_eq_false HCY.out]
        rintro e' w5 ⟨rfl, hb5⟩
        have HB5 := hid (show Below wi.heap.size wi w5 from ⟨hb5.os, hb5.tape, hb5.output, hb5.size, hb5.block⟩)
        clear hb5
        go_wp2
        go_ret
        rw [HF.out]
        exact ⟨rfl, bfrom HBw.out HB5.out⟩
    · have hjm := hid (show j = m by omega)
      have hlen := dcU_len n Ls j
      go_wp2
      go_loopw [8] (fun i wx => ∃ k : Nat, k ≤ n ∧ i = .int .i64 k ∧ Hid (∀ e, e < k → eI (dcU n Ls j) e = 2) ∧ wx = wi) (fun i _ => n - (intOf i).toNat)
      case atStart => exact ⟨0, Nat.zero_le _, rfl, hid (fun e he => absurd he (by omega)), rfl⟩
      case round =>
        obtain ⟨k, hk, rfl, hT, rfl⟩ := hrel
        by_cases hlk : k < n
        · have hlk' : (k : Int) < (n : Int) := by omega
          have hcE := hO.out.reads k (by omega)
          rw [Nat.zero_add] at hcE
          have hgz := hO.out.lt
          obtain ⟨X, hX⟩ : ∃ X, eI (dcU n Ls j) k = X := ⟨_, rfl⟩
          rw [hX] at hcE
          rw [hs0] at hcE hgz
          have HX := hid hX
          clear hX
          cases hx2 : (X != 2)
          · go_wp2
            go_roundw
            case rel => exact ⟨k + 1, by omega, by go_num, hid (fun e he => by
              by_cases h : e = k
              · subst h; rw [HX.out]; simpa using hx2
              · exact hT.out e (by omega)), trivial⟩
            case measure => simp [intOf]; omega
          · have HF := hid (show r = false by
              rw [← HR.out]
              exact decide_eq_false (fun h => by
                have h2 := h.2 k (by rw [Hn.out]; exact hlk)
                rw [Hn.out, HL.out, ← hjm.out, HX.out] at h2
                rw [h2] at hx2
                exact absurd hx2 (by decide)))
            go_wp2
            go_ret
            rw [HF.out]
            exact ⟨rfl, HBw.out⟩
        · have HF := hid (show r = true by
            rw [← HR.out]
            refine decide_eq_true ⟨fun i hi => hC.out i (by rw [hjm.out, ← HL.out]; exact hi), fun e he => ?_⟩
            rw [Hn.out, HL.out, ← hjm.out]
            exact hT.out e (by have := Hn.out; omega))
          go_wp2
          go_ret
          rw [HF.out]
          exact ⟨rfl, HBw.out⟩

end Go.Proofs.Ytfdlhdgmbjdhbaa

/- Double covers in the program: isDoubleCover. -/
namespace Go.Proofs.Ytfdlhdgmbjdhbaa
open Go.RowKit

set_option maxRecDepth 100000 in
set_option maxHeartbeats 8000000 in
theorem iDouble_any (N b off n c m mc : Nat) (pq : Option Addr) (es : List (Int × Int)) (Ls : List (List Int)) (w : World) (hn : es.length = n) (hr : ReadsE w b off es) (g : IsG N es) (hL : Ls.length = m) (hm9 : m ≤ 1048576) (hrl : SeesL w pq Ls) (gs : ∀ i, i < m → isSetP n (lI Ls i)) :
    Calls Try.prog 60 #[.agg #[.int .i64 N, .slice (some ⟨b, off, none⟩) n c], .slice pq m mc] w fun e' w' => e' = .returned (.bool (decide (dblP N es Ls))) ∧ Below w.heap.size w w' := by
  have hn30 : n ≤ 30 := by have := isG_len g; omega
  have hbl : b < w.heap.size := reads_lt hr (by have := g.1.1.2.2.2; have := g.1.1.1; omega)
  have Hn := hid hn
  have Hr := hid hr
  have G := hid g
  have HL := hid hL
  have Hrl := hid hrl
  have GS := hid gs
  obtain ⟨j0, hj, hy0, hy1, hy2⟩ := info_parts infoInt
  obtain ⟨r, hR⟩ : ∃ r, decide (dblP N es Ls) = r := ⟨_, rfl⟩
  rw [hR]
  have HR := hid hR
  have hmk0 : ∀ w', (Instr.makeSlice 41 (.int .i64 n) (.int .i64 n)).run Try.prog w' = .ok (.slice (some ⟨w'.heap.size, 0, none⟩) n n) (w'.alloc (.cells (madeCells (Value.int .i64 0).cells (n * 1)) 2)) := fun w' => by
    have h := run_makeSlice (P := Try.prog) w' 41 2 j0 (.int .i64 0) Try.underlying41 hj hy0 .i64 .i64 n n (by omega) (Int.le_refl _) (by rw [hy1]; omega) (by rw [hy2]; omega) (by omega)
    rw [hy1] at h
    simpa using h
  obtain ⟨ZC, hZC⟩ : ∃ ZC, ZC = madeCells (Value.int .i64 0).cells (n * 1) := ⟨_, rfl⟩
  have hmk : ∀ w', (Instr.makeSlice 41 (.int .i64 n) (.int .i64 n)).run Try.prog w' = .ok (.slice (some ⟨w'.heap.size, 0, none⟩) n n) (w'.alloc (.cells ZC 2)) := by rw [hZC]; exact hmk0
  have HZC := hid hZC
  clear hn hr g hL hrl gs hR hj hmk0 hZC
  go_enter Try.func60, Try.ntmps60
  have HX0 := hid (Box.new w N (some ⟨b, off, none⟩) n c 28)
  have HB0 := hid (on_alloc w (.cells #[.int .i64 N, .slice (some ⟨b, off, none⟩) n c] 28))
  go_wp2
  obtain ⟨w2, hw2⟩ : ∃ w2, w2 = w.alloc (.cells #[.int .i64 N, .slice (some ⟨b, off, none⟩) n c] 28) := ⟨_, rfl⟩
  have HS2 := hid (show w2.heap.size = w.heap.size + 1 by rw [hw2]; simp)
  rw [← hw2] at HX0 HB0 ⊢
  clear hw2
  obtain ⟨w3, hw3⟩ : ∃ w3, w3 = w2.alloc (.cells ZC 2) := ⟨_, rfl⟩
  rw [← hw3]
  have HB3 := hid (show Below w2.heap.size w2 w3 by rw [hw3]; exact on_alloc _ _)
  have HO3 := hid (show OwnI w3 w2.heap.size n (dcU n Ls 0) by
    rw [hw3]
    exact own_zerosD w2 _ n HZC.out rfl hn30)
  clear hw3
  have hs0 : w2.heap.size = w.heap.size + 1 := HS2.out
  go_loopw [18] (fun i wr => ∃ j : Nat, j ≤ m ∧ i = .int .i64 j ∧ Hid (∀ a, a < j → cycP N es (lI Ls a)) ∧ Hid (OwnI wr w2.heap.size n (dcU n Ls j)) ∧ Hid (Below w2.heap.size w2 wr)) (fun i _ => m - (intOf i).toNat)
  case atStart => exact ⟨0, Nat.zero_le _, rfl, hid (fun e he => absurd he (by omega)), HO3, HB3⟩
  case round =>
    obtain ⟨j, hj, rfl, hC, hO, hB⟩ := hrel
    clear HO3 HB3
    have hBs := hB.out.size
    have HBw := hid (bfrom HB0.out hB.out)
    have HXr := hid (HX0.out.on hB.out)
    have hxr := HXr.out.1
    have hyr := HXr.out.2
    have hzr := HXr.out.lt
    obtain ⟨wi, rfl⟩ : ∃ wi : World, wi = wr := ⟨_, rfl⟩
    by_cases hlt : j < m
    · have hlt' : (j : Int) < (m : Int) := by omega
      obtain ⟨b1, o1, rfl, hrd⟩ : ∃ b1 o1, pq = some ⟨b1, o1, none⟩ ∧ ReadsL w b1 o1 Ls := by
        rcases Hrl.out with h | h
        · have := HL.out; rw [h] at this; simp at this; omega
        · exact h
      obtain ⟨q', c', hcell, hsee⟩ := hrd j (by rw [HL.out]; exact hlt)
      have hb1w := World.block_lt_of_cell? w _ hcell
      dsimp only at hb1w
      have hc1 := (World.cell?_of_block (w := w) (w' := wi) (a := ⟨b1, o1 + j, none⟩) (HBw.out.block b1 hb1w)).trans hcell
      have hb1i : b1 < wi.heap.size := by have := HBw.out.size; omega
      obtain ⟨xs, hxs⟩ : ∃ xs, lI Ls j = xs := ⟨_, rfl⟩
      rw [hxs] at hc1 hsee hcell
      obtain ⟨l, hl⟩ : ∃ l, xs.length = l := ⟨_, rfl⟩
      rw [hl] at hc1 hcell
      have HXs := hid hxs
      have HLl := hid hl
      have HSee := hid hsee
      have HCell := hid hcell
      have HG := hid (show isSetP n xs by have h := GS.out j hlt; rwa [hxs] at h)
      have hl30 : l ≤ 30 := by have := set_len HG.out; omega
      clear hrd hcell hsee hxs hl
      have hcall := fun w5 => iIsCyc_any N b off n c q' l c' es xs w5
      by_cases hcy : cycP N es xs
      · have HCY := hid hcy
        clear hcy hcall
        go_wp2_with fail
        refine (iIsCyc_any N b off n c q' l c' es xs _ Hn.out (Hr.out.on HBw.out) G.out HLl.out (HSee.out.on HBw.out) HG.out).mono ?_
        rw [decide_eq_true HCY.out]
        rintro e' w5 ⟨rfl, hb5⟩
        have HB5 := hid (show Below wi.heap.size wi w5 from ⟨hb5.os, hb5.tape, hb5.output, hb5.size, hb5.block⟩)
        have HO5 := hid (hO.out.on HB5.out)
        have HB25 := hid (bfrom hB.out HB5.out)
        clear hb5 hxr hyr hc1
        go_wp2
        go_loopw [28] (fun i wx => ∃ k : Nat, k ≤ l ∧ i = .int .i64 k ∧ Hid (OwnI wx w2.heap.size n (incU (dcU n Ls j) xs k)) ∧ Hid (Below w2.heap.size w2 wx)) (fun i _ => l - (intOf i).toNat)
        case atStart => exact ⟨0, Nat.zero_le _, rfl, HO5, HB25⟩
        case round =>
          obtain ⟨k, hk, rfl, hOk, hBk⟩ := hrel
          clear HO5 HB25
          have hBks := hBk.out.size
          have HBkw := hid (bfrom HB0.out hBk.out)
          have hck := (World.cell?_of_block (w := w) (w' := wr) (a := ⟨b1, o1 + j, none⟩) (HBkw.out.block b1 hb1w)).trans HCell.out
          have hb1k : b1 < wr.heap.size := by have := HBkw.out.size; omega
          obtain ⟨wx, rfl⟩ : ∃ wx : World, wx = wr := ⟨_, rfl⟩
          by_cases hlk : k < l
          · have hlk' : (k : Int) < (l : Int) := by omega
            have hkx : k < xs.length := by have := HLl.out; omega
            obtain ⟨b2, o2, rfl, hrd2⟩ : ∃ b2 o2, q' = some ⟨b2, o2, none⟩ ∧ ReadsI w b2 o2 xs := by
              rcases HSee.out with h | h
              · rw [h] at hkx; simp at hkx
              · exact h
            have hb2w := hrd2.lt (show 0 < xs.length by omega)
            have hb2k : b2 < wx.heap.size := by have := HBkw.out.size; omega
            have hce := (hrd2.on HBkw.out) k hkx
            obtain ⟨E, hE⟩ : ∃ E : Nat, eI xs k = E := ⟨_, (Int.toNat_of_nonneg (HG.out k hkx).1.1).symm⟩
            have hEn : E < n := by have := (HG.out k hkx).1.2; omega
            have hEn' : (E : Int) < (n : Int) := by omega
            rw [hE] at hce
            have hlen : (incU (dcU n Ls j) xs k).length = n := by rw [incU_len, dcU_len]
            have hcE := hOk.out.reads E (by omega)
            rw [Nat.zero_add] at hcE
            have hfE := hOk.out.free E
            have hgz := hOk.out.lt
            have hbd := incU_le (c := dcU n Ls j) (xs := xs) (dcU_le (m := n) (Ls := Ls) (fun i hi => by have h1 := set_len (GS.out i (by rw [← HL.out]; exact hi)); omega) j (by rw [HL.out]; omega)) k E
            obtain ⟨X, hX⟩ : ∃ X, eI (incU (dcU n Ls j) xs k) E = X := ⟨_, rfl⟩
            rw [hX] at hcE hbd
            have hX1 : X < 9223372036854775000 := by omega
            have hX0 := hbd.1
            have HST := hid (show incU (dcU n Ls j) xs (k + 1) = (incU (dcU n Ls j) xs k).set E (X + 1) by
              show incL _ _ = _
              unfold incL
              rw [hE, Int.toNat_natCast, hX])
            have HLn := hid hlen
            rw [hs0] at hcE hfE hgz
            clear hrd2 hE hX hbd hlen
            go_wp2
            go_roundw
            case rel => exact ⟨k + 1, by omega, by go_num, hid (by rw [HST.out, ← hs0]; exact hOk.out.set (by rw [HLn.out]; exact hEn) _), hid (hBk.out.setCell (p := ⟨w.heap.size + 1, E, none⟩) (by show w2.heap.size ≤ w.heap.size + 1; omega) _)⟩
            case measure => simp [intOf]; omega
          · have hkl := hid (show k = l by omega)
            go_wp2
            go_roundw
            case rel => exact ⟨j + 1, by omega, by go_num, hid (fun a ha => by
              by_cases h : a = j
              · subst h; rw [HXs.out]; exact HCY.out
              · exact hC.out a (by omega)), hid (by
              show OwnI wx w2.heap.size n (incU (dcU n Ls j) (lI Ls j) (lI Ls j).length)
              rw [HXs.out, HLl.out, ← hkl.out]
              exact hOk.out), hBk⟩
            case measure => simp [intOf]; omega
      · have HCY := hid hcy
        have HF := hid (show r = false by rw [← HR.out]; exact decide_eq_false (fun h => hcy (by have h2 := h.1 j (by rw [HL.out]; exact hlt); rwa [HXs.out] at h2)))
        clear hcy hcall
        go_wp2_with fail
        refine (iIsCyc_any N b off n c q' l c' es xs _ Hn.out (Hr.out.on HBw.out) G.out HLl.out (HSee.out.on HBw.out) HG.out).mono ?_
        rw [decide_eq_false HCY.out]
        rintro e' w5 ⟨rfl, hb5⟩
        have HB5 := hid (show Below wi.heap.size wi w5 from ⟨hb5.os, hb5.tape, hb5.output, hb5.size, hb5.block⟩)
        clear hb5
        go_wp2
        go_ret
        rw [HF.out]
        exact ⟨rfl, bfrom HBw.out HB5.out⟩
    · have hjm := hid (show j = m by omega)
      have hlen := dcU_len n Ls j
      go_wp2
      go_loopw [42] (fun i wx => ∃ k : Nat, k ≤ n ∧ i = .int .i64 k ∧ Hid (∀ e, e < k → eI (dcU n Ls j) e = 2) ∧ wx = wi) (fun i _ => n - (intOf i).toNat)
      case atStart => exact ⟨0, Nat.zero_le _, rfl, hid (fun e he => absurd he (by omega)), rfl⟩
      case round =>
        obtain ⟨k, hk, rfl, hT, rfl⟩ := hrel
        by_cases hlk : k < n
        · have hlk' : (k : Int) < (n : Int) := by omega
          have hcE := hO.out.reads k (by omega)
          rw [Nat.zero_add] at hcE
          have hgz := hO.out.lt
          obtain ⟨X, hX⟩ : ∃ X, eI (dcU n Ls j) k = X := ⟨_, rfl⟩
          rw [hX] at hcE
          rw [hs0] at hcE hgz
          have HX := hid hX
          clear hX
          cases hx2 : (X != 2)
          · go_wp2
            go_roundw
            case rel => exact ⟨k + 1, by omega, by go_num, hid (fun e he => by
              by_cases h : e = k
              · subst h; rw [HX.out]; simpa using hx2
              · exact hT.out e (by omega)), trivial⟩
            case measure => simp [intOf]; omega
          · have HF := hid (show r = false by
              rw [← HR.out]
              exact decide_eq_false (fun h => by
                have h2 := h.2 k (by rw [Hn.out]; exact hlk)
                rw [Hn.out, HL.out, ← hjm.out, HX.out] at h2
                rw [h2] at hx2
                exact absurd hx2 (by decide)))
            go_wp2
            go_ret
            rw [HF.out]
            exact ⟨rfl, HBw.out⟩
        · have HF := hid (show r = true by
            rw [← HR.out]
            refine decide_eq_true ⟨fun i hi => hC.out i (by rw [hjm.out, ← HL.out]; exact hi), fun e he => ?_⟩
            rw [Hn.out, HL.out, ← hjm.out]
            exact hT.out e (by have := Hn.out; omega))
          go_wp2
          go_ret
          rw [HF.out]
          exact ⟨rfl, HBw.out⟩

end Go.Proofs.Ytfdlhdgmbjdhbaa

/- The code of a graph and a list of sets, in the model: l07Lists. -/
namespace Go.Proofs.Ytfdlhdgmbjdhbaa
open Go.RowKit

set_option maxRecDepth 100000 in
set_option maxHeartbeats 4000000 in
theorem sLists_no (s : Int) (p pq : Option Addr) (n c m mc : Nat) (es : List (Int × Int)) (w : World) (hm : n ≤ 1048576) (hn : es.length = n) (hr : SeesE w p es) (g : ¬ IsG s es) :
    Calls Try.prog 54 #[.agg #[.int .i64 s, .slice p n c], .slice pq m mc] w fun e' w' => e' = .returned (.int .i64 1) ∧ Below w.heap.size w w' := by
  have Hn := hid hn
  have Hr := hid hr
  have G := hid g
  clear hn hr g
  go_enter Try.func54, Try.ntmps54
  go_wp2_with fail
  refine (sIs_any _ _ _ _ es _ (by omega) Hn.out (Hr.out.on (on_alloc _ _))).mono ?_
  rw [decide_eq_false G.out]
  rintro e w2 ⟨rfl, hb2⟩
  have HB2 := hid (bfrom (w := w) (on_alloc _ _) hb2)
  clear hb2
  go_wp2
  go_ret
  exact ⟨rfl, HB2.out⟩

set_option maxRecDepth 100000 in
set_option maxHeartbeats 4000000 in
theorem sLists_yes (s : Int) (b off n c m mc : Nat) (pq : Option Addr) (es : List (Int × Int)) (Ls : List (List Int)) (w : World) (hn : es.length = n) (hr : ReadsE w b off es) (g : IsG s es) (hL : Ls.length = m) (hm9 : m ≤ 1048576) (hl : ∀ i, i < m → (lI Ls i).length ≤ 1048576) (hrl : SeesL w pq Ls) :
    Calls Try.prog 54 #[.agg #[.int .i64 s, .slice (some ⟨b, off, none⟩) n c], .slice pq m mc] w fun e' w' => e' = .returned (.int .i64 (if areSetsP n Ls then 0 else 2)) ∧ Below w.heap.size w w' := by
  have hn30 : n ≤ 30 := by have := isG_len g; omega
  have hn1 : 1 ≤ n := by have h1 := g.1.1.1; have h2 := g.1.1.2.2.2; omega
  have Hn := hid hn
  have Hr := hid hr
  have G := hid g
  have HL := hid hL
  have Hl := hid hl
  have Hrl := hid hrl
  obtain ⟨r, hR⟩ : ∃ r : Int, (if areSetsP n Ls then (0 : Int) else 2) = r := ⟨_, rfl⟩
  rw [hR]
  have HR := hid hR
  clear hn hr g hL hl hrl hR
  go_enter Try.func54, Try.ntmps54
  go_wp2_with fail
  refine (sIs_any _ _ _ _ es _ (by omega) Hn.out (SeesE.on (.inr ⟨b, off, rfl, Hr.out⟩) (on_alloc _ _))).mono ?_
  rw [decide_eq_true G.out]
  rintro e w2 ⟨rfl, hb2⟩
  have HB2 := hid (bfrom (w := w) (on_alloc _ _) hb2)
  have HX2 := hid ((Box.new w s (some ⟨b, off, none⟩) n c 28).on hb2)
  have hz2 := HX2.out.lt
  clear hb2
  have hx2 := HX2.out.1
  have hy2 := HX2.out.2
  go_wp2
  go_loopw [5] (fun i wr => ∃ j : Nat, j ≤ m ∧ i = .int .i64 j ∧ Hid (∀ a, a < j → isSetP n (lI Ls a)) ∧ Hid (Below w2.heap.size w2 wr)) (fun i _ => m - (intOf i).toNat)
  case atStart => exact ⟨0, Nat.zero_le _, rfl, hid (fun e he => absurd he (by omega)), hid (Below.refl _ _)⟩
  case round =>
    obtain ⟨j, hj, rfl, hC, hB⟩ := hrel
    have hBs := hB.out.size
    have HBw := hid (bfrom HB2.out hB.out)
    have HXr := hid (HX2.out.on hB.out)
    have hxr := HXr.out.1
    have hyr := HXr.out.2
    have hzr := HXr.out.lt
    obtain ⟨wi, rfl⟩ : ∃ wi : World, wi = wr := ⟨_, rfl⟩
    by_cases hlt : j < m
    · have hlt' : (j : Int) < (m : Int) := by omega
      obtain ⟨b1, o1, rfl, hrd⟩ : ∃ b1 o1, pq = some ⟨b1, o1, none⟩ ∧ ReadsL w b1 o1 Ls := by
        rcases Hrl.out with h | h
        · have := HL.out; rw [h] at this; simp at this; omega
        · exact h
      obtain ⟨q', c', hcell, hsee⟩ := hrd j (by rw [HL.out]; exact hlt)
      have hb1w := World.block_lt_of_cell? w _ hcell
      dsimp only at hb1w
      have hc1 := (World.cell?_of_block (w := w) (w' := wi) (a := ⟨b1, o1 + j, none⟩) (HBw.out.block b1 hb1w)).trans hcell
      have hb1i : b1 < wi.heap.size := by have := HBw.out.size; omega
      obtain ⟨xs, hxs⟩ : ∃ xs, lI Ls j = xs := ⟨_, rfl⟩
      have hl9 := Hl.out j hlt
      rw [hxs] at hc1 hsee hl9
      obtain ⟨l, hl⟩ : ∃ l, xs.length = l := ⟨_, rfl⟩
      rw [hl] at hc1 hl9
      have HXs := hid hxs
      have HLl := hid hl
      have HSee := hid hsee
      clear hrd hcell hsee hxs hl
      by_cases hcy : isSetP n xs
      all_goals
        have HCY := hid hcy
        clear hcy
        go_wp2
        go_still_tail 7, (by kernel_rfl)
        go_wp2_with fail
        refine (sSet_any q' l c' n xs _ hn1 hn30 HLl.out hl9 (HSee.out.on (bfrom HBw.out (Below.refl _ _).drew))).mono ?_
        unfold setCode
        first | rw [if_pos HCY.out] | rw [if_neg HCY.out]
        rintro e' w5 ⟨rfl, hb5⟩
        have HB5 := hid (show Below wi.heap.size wi w5 from ⟨hb5.os, hb5.tape, hb5.output, hb5.size, hb5.block⟩)
        clear hb5
      · go_wp2
        go_roundw
        case rel => exact ⟨j + 1, by omega, by go_num, hid (fun a ha => by
          by_cases h : a = j
          · subst h; rw [HXs.out]; exact HCY.out
          · exact hC.out a (by omega)), hid (bfrom hB.out HB5.out)⟩
        case measure => simp [intOf]; omega
      · have HF := hid (show r = 2 by
          rw [← HR.out]
          exact if_neg (fun h => HCY.out (by have h2 := h j (by rw [HL.out]; exact hlt); rwa [HXs.out] at h2)))
        go_wp2
        go_ret
        rw [HF.out]
        exact ⟨rfl, bfrom HBw.out HB5.out⟩
    · have HF := hid (show r = 0 by
        rw [← HR.out]
        exact if_pos (fun i hi => hC.out i (by have := HL.out; omega)))
      go_wp2
      go_ret
      rw [HF.out]
      exact ⟨rfl, HBw.out⟩

end Go.Proofs.Ytfdlhdgmbjdhbaa

namespace Go.Proofs.Ytfdlhdgmbjdhbaa
open Go.RowKit

theorem sLists_any (s : Int) (p pq : Option Addr) (n c m mc : Nat) (es : List (Int × Int)) (Ls : List (List Int)) (w : World) (hm : n ≤ 1048576) (hn : es.length = n) (hr : SeesE w p es) (hL : Ls.length = m) (hm9 : m ≤ 1048576) (hl : ∀ i, i < m → (lI Ls i).length ≤ 1048576) (hrl : SeesL w pq Ls) :
    Calls Try.prog 54 #[.agg #[.int .i64 s, .slice p n c], .slice pq m mc] w fun e' w' => e' = .returned (.int .i64 (setsCode s es Ls)) ∧ Below w.heap.size w w' := by
  unfold setsCode
  by_cases g : IsG s es
  · rw [if_pos g, hn]
    obtain ⟨b, off, rfl, rd⟩ := isG_sees g hr
    exact sLists_yes s b off n c m mc pq es Ls w hn rd g hL hm9 hl hrl
  · rw [if_neg g]
    exact sLists_no s p pq n c m mc es w hm hn hr g

end Go.Proofs.Ytfdlhdgmbjdhbaa
