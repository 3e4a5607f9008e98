/- The law on IsDoubleCover, walked out of the contracts: it returns true, whatever lies in memory. -/
import Derived.Test.YtogdcoioflcdiaaCycQ
import Derived.Test.YtogdcoioflcdiaaLists
import Derived.StillTailTactics
import Derived.Test.YtogdcoioflcdiaaEdgM
import Derived.Test.YtogdcoioflcdiaaSetsI
import Derived.Test.YtogdcoioflcdiaaListsT
import Derived.Test.YtogdcoioflcdiaaLawsF
import Derived.Deep.RegionWith
import Derived.Deep.DeepCutAuto

/- IsDoubleCover at any argument, in the model and in the program. -/
/- Double covers, plainly: how often an edge stands in the sets of a list. No program is named here. -/
namespace Go.Proofs.Ytogdcoioflcdiaa
open Go.RowKit

/-- One more at a place. -/
def incL (c : List Int) (e : Nat) : List Int := c.set e (eI c e + 1)
/-- One more at the first k entries of a list. -/
def incU (c xs : List Int) : Nat → List Int
  | 0 => c
  | k + 1 => incL (incU c xs k) (eI xs k).toNat
/-- The counts after the first i lists. -/
def dcU (m : Nat) (Ls : List (List Int)) : Nat → List Int
  | 0 => List.replicate m 0
  | i + 1 => incU (dcU m Ls i) (lI Ls i) (lI Ls i).length
theorem incU_len (c xs : List Int) : ∀ k, (incU c xs k).length = c.length
  | 0 => rfl
  | k + 1 => by
    show (incL _ _).length = _
    unfold incL
    rw [List.length_set, incU_len c xs k]
theorem dcU_len (m : Nat) (Ls : List (List Int)) : ∀ i, (dcU m Ls i).length = m
  | 0 => by simp [dcU]
  | i + 1 => by
    show (incU _ _ _).length = _
    rw [incU_len, dcU_len m Ls i]
theorem incL_le {c : List Int} {e i : Nat} {B : Int} (h : ∀ j, 0 ≤ eI c j ∧ eI c j ≤ B) : 0 ≤ eI (incL c e) i ∧ eI (incL c e) i ≤ B + 1 := by
  unfold incL
  by_cases he : e < c.length
  · rw [eI_set he]
    split
    · have := h e; omega
    · have := h i; omega
  · rw [List.set_eq_of_length_le (by omega)]
    have := h i
    omega
theorem incU_le {c xs : List Int} {B : Int} (h : ∀ j, 0 ≤ eI c j ∧ eI c j ≤ B) : ∀ k j, 0 ≤ eI (incU c xs k) j ∧ eI (incU c xs k) j ≤ B + k
  | 0, j => by have := h j; simpa [incU] using this
  | k + 1, j => by
    have := incL_le (c := incU c xs k) (e := (eI xs k).toNat) (i := j) (incU_le (xs := xs) h k)
    show 0 ≤ eI (incL _ _) j ∧ eI (incL _ _) j ≤ _
    omega
theorem dcU_le {m : Nat} {Ls : List (List Int)} (hl : ∀ i, i < Ls.length → (lI Ls i).length ≤ 30) : ∀ i, i ≤ Ls.length → ∀ j, 0 ≤ eI (dcU m Ls i) j ∧ eI (dcU m Ls i) j ≤ 30 * i
  | 0, _, j => by
    show 0 ≤ eI (List.replicate m 0) j ∧ eI (List.replicate m 0) j ≤ _
    have : eI (List.replicate m 0) j = 0 := by
      unfold eI
      rw [List.getD_eq_getElem?_getD, List.getElem?_replicate]
      split <;> rfl
    omega
  | i + 1, hi, j => by
    have h1 := incU_le (c := dcU m Ls i) (xs := lI Ls i) (dcU_le (m := m) hl i (by omega)) (lI Ls i).length j
    have h2 := hl i (by omega)
    show 0 ≤ eI (incU _ _ _) j ∧ eI (incU _ _ _) j ≤ _
    omega
/-- All are cycles, and each edge stands in two of them. -/
def dblP (N : Nat) (es : List (Int × Int)) (Ls : List (List Int)) : Prop := (∀ i, i < Ls.length → cycP N es (lI Ls i)) ∧ ∀ e, e < es.length → eI (dcU es.length Ls Ls.length) e = 2
instance (N : Nat) (es : List (Int × Int)) (Ls : List (List Int)) : Decidable (dblP N es Ls) := by unfold dblP; infer_instance

end Go.Proofs.Ytogdcoioflcdiaa

/- Double covers in the model: l07Double. -/
namespace Go.Proofs.Ytogdcoioflcdiaa
open Go.RowKit

theorem own_zerosD {ZC : Array Value} (w : World) (g n : Nat) (hZ : ZC = madeCells (Value.int .i64 0).cells (n * 1)) (hg : g = w.heap.size) (hn : n ≤ 30) : OwnI (w.alloc (.cells ZC 2)) g n (List.replicate n 0) := by
  subst hZ hg
  refine ⟨_, heap_alloc_new w _, by rw [size_madeCells, Nat.mul_one], by simp, by unfold maxLen; omega, fun i hi => ?_⟩
  have hi' : i < n := by simpa using hi
  rw [eI_lt (by simpa using hi')]
  simp [madeCells, hi', Value.cells, Nat.mod_one]

set_option maxRecDepth 100000 in
set_option maxHeartbeats 8000000 in
theorem sDouble_any (N b off n c m mc : Nat) (pq : Option Addr) (es : List (Int × Int)) (Ls : List (List Int)) (w : World) (hn : es.length = n) (hr : ReadsE w b off es) (g : IsG N es) (hL : Ls.length = m) (hm9 : m ≤ 1048576) (hrl : SeesL w pq Ls) (gs : ∀ i, i < m → isSetP n (lI Ls i)) :
    Calls Try.prog 78 #[.agg #[.int .i64 N, .slice (some ⟨b, off, none⟩) n c], .slice pq m mc] w fun e' w' => e' = .returned (.bool (decide (dblP N es Ls))) ∧ Below w.heap.size w w' := by
  have hn30 : n ≤ 30 := by have := isG_len g; omega
  have hbl : b < w.heap.size := reads_lt hr (by have := g.1.1.2.2.2; have := g.1.1.1; omega)
  have Hn := hid hn
  have Hr := hid hr
  have G := hid g
  have HL := hid hL
  have Hrl := hid hrl
  have GS := hid gs
  obtain ⟨j0, hj, hy0, hy1, hy2⟩ := info_parts infoInt
  obtain ⟨r, hR⟩ : ∃ r, decide (dblP N es Ls) = r := ⟨_, rfl⟩
  rw [hR]
  have HR := hid hR
  have hmk0 : ∀ w', (Instr.makeSlice 25 (.int .i64 n) (.int .i64 n)).run Try.prog w' = .ok (.slice (some ⟨w'.heap.size, 0, none⟩) n n) (w'.alloc (.cells (madeCells (Value.int .i64 0).cells (n * 1)) 2)) := fun w' => by
    have h := run_makeSlice (P := Try.prog) w' 25 2 j0 (.int .i64 0) Try.underlying25 hj hy0 .i64 .i64 n n (by omega) (Int.le_refl _) (by rw [hy1]; omega) (by rw [hy2]; omega) (by omega)
    rw [hy1] at h
    simpa using h
  obtain ⟨ZC, hZC⟩ : ∃ ZC, ZC = madeCells (Value.int .i64 0).cells (n * 1) := ⟨_, rfl⟩
  have hmk : ∀ w', (Instr.makeSlice 25 (.int .i64 n) (.int .i64 n)).run Try.prog w' = .ok (.slice (some ⟨w'.heap.size, 0, none⟩) n n) (w'.alloc (.cells ZC 2)) := by rw [hZC]; exact hmk0
  have HZC := hid hZC
  clear hn hr g hL hrl gs hR hj hmk0 hZC
  go_enter Try.func78, Try.ntmps78
  have HX0 := hid (Box.new w N (some ⟨b, off, none⟩) n c 31)
  have HB0 := hid (on_alloc w (.cells #[.int .i64 N, .slice (some ⟨b, off, none⟩) n c] 31))
  go_wp2
  obtain ⟨w2, hw2⟩ : ∃ w2, w2 = w.alloc (.cells #[.int .i64 N, .slice (some ⟨b, off, none⟩) n c] 31) := ⟨_, rfl⟩
  have HS2 := hid (show w2.heap.size = w.heap.size + 1 by rw [hw2]; simp)
  rw [← hw2] at HX0 HB0 ⊢
  clear hw2
  obtain ⟨w3, hw3⟩ : ∃ w3, w3 = w2.alloc (.cells ZC 2) := ⟨_, rfl⟩
  rw [← hw3]
  have HB3 := hid (show Below w2.heap.size w2 w3 by rw [hw3]; exact on_alloc _ _)
  have HO3 := hid (show OwnI w3 w2.heap.size n (dcU n Ls 0) by
    rw [hw3]
    exact own_zerosD w2 _ n HZC.out rfl hn30)
  clear hw3
  have hs0 : w2.heap.size = w.heap.size + 1 := HS2.out
  go_loopw [6] (fun i wr => ∃ j : Nat, j ≤ m ∧ i = .int .i64 j ∧ Hid (∀ a, a < j → cycP N es (lI Ls a)) ∧ Hid (OwnI wr w2.heap.size n (dcU n Ls j)) ∧ Hid (Below w2.heap.size w2 wr)) (fun i _ => m - (intOf i).toNat)
  case atStart => exact ⟨0, Nat.zero_le _, rfl, hid (fun e he => absurd he (by omega)), HO3, HB3⟩
  case round =>
    obtain ⟨j, hj, rfl, hC, hO, hB⟩ := hrel
    clear HO3 HB3
    have hBs := hB.out.size
    have HBw := hid (bfrom HB0.out hB.out)
    have HXr := hid (HX0.out.on hB.out)
    have hxr := HXr.out.1
    have hyr := HXr.out.2
    have hzr := HXr.out.lt
    obtain ⟨wi, rfl⟩ : ∃ wi : World, wi = wr := ⟨_, rfl⟩
    by_cases hlt : j < m
    · have hlt' : (j : Int) < (m : Int) := by omega
      obtain ⟨b1, o1, rfl, hrd⟩ : ∃ b1 o1, pq = some ⟨b1, o1, none⟩ ∧ ReadsL w b1 o1 Ls := by
        rcases Hrl.out with h | h
        · have := HL.out; rw [h] at this; simp at this; omega
        · exact h
      obtain ⟨q', c', hcell, hsee⟩ := hrd j (by rw [HL.out]; exact hlt)
      have hb1w := World.block_lt_of_cell? w _ hcell
      dsimp only at hb1w
      have hc1 := (World.cell?_of_block (w := w) (w' := wi) (a := ⟨b1, o1 + j, none⟩) (HBw.out.block b1 hb1w)).trans hcell
      have hb1i : b1 < wi.heap.size := by have := HBw.out.size; omega
      obtain ⟨xs, hxs⟩ : ∃ xs, lI Ls j = xs := ⟨_, rfl⟩
      rw [hxs] at hc1 hsee hcell
      obtain ⟨l, hl⟩ : ∃ l, xs.length = l := ⟨_, rfl⟩
      rw [hl] at hc1 hcell
      have HXs := hid hxs
      have HLl := hid hl
      have HSee := hid hsee
      have HCell := hid hcell
      have HG := hid (show isSetP n xs by have h := GS.out j hlt; rwa [hxs] at h)
      have hl30 : l ≤ 30 := by have := set_len HG.out; omega
      clear hrd hcell hsee hxs hl
      have hcall := fun w5 => sIsCyc_any N b off n c q' l c' es xs w5
      by_cases hcy : cycP N es xs
      · have HCY := hid hcy
        clear hcy hcall
        go_wp2
        go_still_tail 5, (by kernel_rfl)
        go_wp2_with fail
        refine (sIsCyc_any N b off n c q' l c' es xs _ Hn.out (Hr.out.on (bfrom HBw.out (Below.refl _ _).drew)) G.out HLl.out (HSee.out.on (bfrom HBw.out (Below.refl _ _).drew)) HG.out).mono ?_
        rw [decide_eq_true HCY.out]
        rintro e' w5 ⟨rfl, hb5⟩
        have HB5 := hid (show Below wi.heap.size wi w5 from ⟨hb5.os, hb5.tape, hb5.output, hb5.size, hb5.block⟩)
        have HO5 := hid (hO.out.on HB5.out)
        have HB25 := hid (bfrom hB.out HB5.out)
        clear hb5 hxr hyr hc1
        go_wp2
        go_loopw [7] (fun i wx => ∃ k : Nat, k ≤ l ∧ i = .int .i64 k ∧ Hid (OwnI wx w2.heap.size n (incU (dcU n Ls j) xs k)) ∧ Hid (Below w2.heap.size w2 wx)) (fun i _ => l - (intOf i).toNat)
        case atStart => exact ⟨0, Nat.zero_le _, rfl, HO5, HB25⟩
        case round =>
          obtain ⟨k, hk, rfl, hOk, hBk⟩ := hrel
          clear HO5 HB25
          have hBks := hBk.out.size
          have HBkw := hid (bfrom HB0.out hBk.out)
          have hck := (World.cell?_of_block (w := w) (w' := wr) (a := ⟨b1, o1 + j, none⟩) (HBkw.out.block b1 hb1w)).trans HCell.out
          have hb1k : b1 < wr.heap.size := by have := HBkw.out.size; omega
          obtain ⟨wx, rfl⟩ : ∃ wx : World, wx = wr := ⟨_, rfl⟩
          by_cases hlk : k < l
          · have hlk' : (k : Int) < (l : Int) := by omega
            have hkx : k < xs.length := by have := HLl.out; omega
            obtain ⟨b2, o2, rfl, hrd2⟩ : ∃ b2 o2, q' = some ⟨b2, o2, none⟩ ∧ ReadsI w b2 o2 xs := by
              rcases HSee.out with h | h
              · rw [h] at hkx; simp at hkx
              · exact h
            have hb2w := hrd2.lt (show 0 < xs.length by omega)
            have hb2k : b2 < wx.heap.size := by have := HBkw.out.size; omega
            have hce := (hrd2.on HBkw.out) k hkx
            obtain ⟨E, hE⟩ : ∃ E : Nat, eI xs k = E := ⟨_, (Int.toNat_of_nonneg (HG.out k hkx).1.1).symm⟩
            have hEn : E < n := by have := (HG.out k hkx).1.2; omega
            have hEn' : (E : Int) < (n : Int) := by omega
            rw [hE] at hce
            have hlen : (incU (dcU n Ls j) xs k).length = n := by rw [incU_len, dcU_len]
            have hcE := hOk.out.reads E (by omega)
            rw [Nat.zero_add] at hcE
            have hfE := hOk.out.free E
            have hgz := hOk.out.lt
            have hbd := incU_le (c := dcU n Ls j) (xs := xs) (dcU_le (m := n) (Ls := Ls) (fun i hi => by have h1 := set_len (GS.out i (by rw [← HL.out]; exact hi)); omega) j (by rw [HL.out]; omega)) k E
            obtain ⟨X, hX⟩ : ∃ X, eI (incU (dcU n Ls j) xs k) E = X := ⟨_, rfl⟩
            rw [hX] at hcE hbd
            have hX1 : X < 9223372036854775000 := by omega
            have hX0 := hbd.1
            have HST := hid (show incU (dcU n Ls j) xs (k + 1) = (incU (dcU n Ls j) xs k).set E (X + 1) by
              show incL _ _ = _
              unfold incL
              rw [hE, Int.toNat_natCast, hX])
            have HLn := hid hlen
            rw [hs0] at hcE hfE hgz
            clear hrd2 hE hX hbd hlen
            go_wp2
            go_roundw
            case rel => exact ⟨k + 1, by omega, by go_num, hid (by rw [HST.out, ← hs0]; exact hOk.out.set (by rw [HLn.out]; exact hEn) _), hid (hBk.out.setCell (p := ⟨w.heap.size + 1, E, none⟩) (by show w2.heap.size ≤ w.heap.size + 1; omega) _)⟩
            case measure => simp [intOf]; omega
          · have hkl := hid (show k = l by omega)
            go_wp2
            go_roundw
            case rel => exact ⟨j + 1, by omega, by go_num, hid (fun a ha => by
              by_cases h : a = j
              · subst h; rw [HXs.out]; exact HCY.out
              · exact hC.out a (by omega)), hid (by
              show OwnI wx w2.heap.size n (incU (dcU n Ls j) (lI Ls j) (lI Ls j).length)
              rw [HXs.out, HLl.out, ← hkl.out]
              exact hOk.out), hBk⟩
            case measure => simp [intOf]; omega
      · have HCY := hid hcy
        have HF := hid (show r = false by rw [← HR.out]; exact decide_eq_false (fun h => hcy (by have h2 := h.1 j (by rw [HL.out]; exact hlt); rwa [HXs.out] at h2)))
        clear hcy hcall
        go_wp2
        go_still_tail 5, (by kernel_rfl)
        go_wp2_with fail
        refine (sIsCyc_any N b off n c q' l c' es xs _ Hn.out (Hr.out.on (bfrom HBw.out (Below.refl _ _).drew)) G.out HLl.out (HSee.out.on (bfrom HBw.out (Below.refl _ _).drew)) HG.out).mono ?_
        rw [decide_eq_false HCY.out]
        rintro e' w5 ⟨rfl, hb5⟩
        have HB5 := hid (show Below wi.heap.size wi w5 from ⟨hb5.os, hb5.tape, hb5.output, hb5.size, hb5.block⟩)
        clear hb5
        go_wp2
        go_ret
        rw [HF.out]
        exact ⟨rfl, bfrom HBw.out HB5.out⟩
    · have hjm := hid (show j = m by omega)
      have hlen := dcU_len n Ls j
      go_wp2
      go_loopw [8] (fun i wx => ∃ k : Nat, k ≤ n ∧ i = .int .i64 k ∧ Hid (∀ e, e < k → eI (dcU n Ls j) e = 2) ∧ wx = wi) (fun i _ => n - (intOf i).toNat)
      case atStart => exact ⟨0, Nat.zero_le _, rfl, hid (fun e he => absurd he (by omega)), rfl⟩
      case round =>
        obtain ⟨k, hk, rfl, hT, rfl⟩ := hrel
        by_cases hlk : k < n
        · have hlk' : (k : Int) < (n : Int) := by omega
          have hcE := hO.out.reads k (by omega)
          rw [Nat.zero_add] at hcE
          have hgz := hO.out.lt
          obtain ⟨X, hX⟩ : ∃ X, eI (dcU n Ls j) k = X := ⟨_, rfl⟩
          rw [hX] at hcE
          rw [hs0] at hcE hgz
          have HX := hid hX
          clear hX
          cases hx2 : (X != 2)
          · go_wp2
            go_roundw
            case rel => exact ⟨k + 1, by omega, by go_num, hid (fun e he => by
              by_cases h : e = k
              · subst h; rw [HX.out]; simpa using hx2
              · exact hT.out e (by omega)), trivial⟩
            case measure => simp [intOf]; omega
          · have HF := hid (show r = false by
              rw [← HR.out]
              exact decide_eq_false (fun h => by
                have h2 := h.2 k (by rw [Hn.out]; exact hlk)
                rw [Hn.out, HL.out, ← hjm.out, HX.out] at h2
                rw [h2] at hx2
                exact absurd hx2 (by decide)))
            go_wp2
            go_ret
            rw [HF.out]
            exact ⟨rfl, HBw.out⟩
        · have HF := hid (show r = true by
            rw [← HR.out]
            refine decide_eq_true ⟨fun i hi => hC.out i (by rw [hjm.out, ← HL.out]; exact hi), fun e he => ?_⟩
            rw [Hn.out, HL.out, ← hjm.out]
            exact hT.out e (by have := Hn.out; omega))
          go_wp2
          go_ret
          rw [HF.out]
          exact ⟨rfl, HBw.out⟩

end Go.Proofs.Ytogdcoioflcdiaa

/- Double covers in the program: isDoubleCover. -/
namespace Go.Proofs.Ytogdcoioflcdiaa
open Go.RowKit

set_option maxRecDepth 100000 in
set_option maxHeartbeats 8000000 in
theorem iDouble_any (N b off n c m mc : Nat) (pq : Option Addr) (es : List (Int × Int)) (Ls : List (List Int)) (w : World) (hn : es.length = n) (hr : ReadsE w b off es) (g : IsG N es) (hL : Ls.length = m) (hm9 : m ≤ 1048576) (hrl : SeesL w pq Ls) (gs : ∀ i, i < m → isSetP n (lI Ls i)) :
    Calls Try.prog 79 #[.agg #[.int .i64 N, .slice (some ⟨b, off, none⟩) n c], .slice pq m mc] w fun e' w' => e' = .returned (.bool (decide (dblP N es Ls))) ∧ Below w.heap.size w w' := by
  have hn30 : n ≤ 30 := by have := isG_len g; omega
  have hbl : b < w.heap.size := reads_lt hr (by have := g.1.1.2.2.2; have := g.1.1.1; omega)
  have Hn := hid hn
  have Hr := hid hr
  have G := hid g
  have HL := hid hL
  have Hrl := hid hrl
  have GS := hid gs
  obtain ⟨j0, hj, hy0, hy1, hy2⟩ := info_parts infoInt
  obtain ⟨r, hR⟩ : ∃ r, decide (dblP N es Ls) = r := ⟨_, rfl⟩
  rw [hR]
  have HR := hid hR
  have hmk0 : ∀ w', (Instr.makeSlice 25 (.int .i64 n) (.int .i64 n)).run Try.prog w' = .ok (.slice (some ⟨w'.heap.size, 0, none⟩) n n) (w'.alloc (.cells (madeCells (Value.int .i64 0).cells (n * 1)) 2)) := fun w' => by
    have h := run_makeSlice (P := Try.prog) w' 25 2 j0 (.int .i64 0) Try.underlying25 hj hy0 .i64 .i64 n n (by omega) (Int.le_refl _) (by rw [hy1]; omega) (by rw [hy2]; omega) (by omega)
    rw [hy1] at h
    simpa using h
  obtain ⟨ZC, hZC⟩ : ∃ ZC, ZC = madeCells (Value.int .i64 0).cells (n * 1) := ⟨_, rfl⟩
  have hmk : ∀ w', (Instr.makeSlice 25 (.int .i64 n) (.int .i64 n)).run Try.prog w' = .ok (.slice (some ⟨w'.heap.size, 0, none⟩) n n) (w'.alloc (.cells ZC 2)) := by rw [hZC]; exact hmk0
  have HZC := hid hZC
  clear hn hr g hL hrl gs hR hj hmk0 hZC
  go_enter Try.func79, Try.ntmps79
  have HX0 := hid (Box.new w N (some ⟨b, off, none⟩) n c 31)
  have HB0 := hid (on_alloc w (.cells #[.int .i64 N, .slice (some ⟨b, off, none⟩) n c] 31))
  go_wp2
  obtain ⟨w2, hw2⟩ : ∃ w2, w2 = w.alloc (.cells #[.int .i64 N, .slice (some ⟨b, off, none⟩) n c] 31) := ⟨_, rfl⟩
  have HS2 := hid (show w2.heap.size = w.heap.size + 1 by rw [hw2]; simp)
  rw [← hw2] at HX0 HB0 ⊢
  clear hw2
  obtain ⟨w3, hw3⟩ : ∃ w3, w3 = w2.alloc (.cells ZC 2) := ⟨_, rfl⟩
  rw [← hw3]
  have HB3 := hid (show Below w2.heap.size w2 w3 by rw [hw3]; exact on_alloc _ _)
  have HO3 := hid (show OwnI w3 w2.heap.size n (dcU n Ls 0) by
    rw [hw3]
    exact own_zerosD w2 _ n HZC.out rfl hn30)
  clear hw3
  have hs0 : w2.heap.size = w.heap.size + 1 := HS2.out
  go_loopw [18] (fun i wr => ∃ j : Nat, j ≤ m ∧ i = .int .i64 j ∧ Hid (∀ a, a < j → cycP N es (lI Ls a)) ∧ Hid (OwnI wr w2.heap.size n (dcU n Ls j)) ∧ Hid (Below w2.heap.size w2 wr)) (fun i _ => m - (intOf i).toNat)
  case atStart => exact ⟨0, Nat.zero_le _, rfl, hid (fun e he => absurd he (by omega)), HO3, HB3⟩
  case round =>
    obtain ⟨j, hj, rfl, hC, hO, hB⟩ := hrel
    clear HO3 HB3
    have hBs := hB.out.size
    have HBw := hid (bfrom HB0.out hB.out)
    have HXr := hid (HX0.out.on hB.out)
    have hxr := HXr.out.1
    have hyr := HXr.out.2
    have hzr := HXr.out.lt
    obtain ⟨wi, rfl⟩ : ∃ wi : World, wi = wr := ⟨_, rfl⟩
    by_cases hlt : j < m
    · have hlt' : (j : Int) < (m : Int) := by omega
      obtain ⟨b1, o1, rfl, hrd⟩ : ∃ b1 o1, pq = some ⟨b1, o1, none⟩ ∧ ReadsL w b1 o1 Ls := by
        rcases Hrl.out with h | h
        · have := HL.out; rw [h] at this; simp at this; omega
        · exact h
      obtain ⟨q', c', hcell, hsee⟩ := hrd j (by rw [HL.out]; exact hlt)
      have hb1w := World.block_lt_of_cell? w _ hcell
      dsimp only at hb1w
      have hc1 := (World.cell?_of_block (w := w) (w' := wi) (a := ⟨b1, o1 + j, none⟩) (HBw.out.block b1 hb1w)).trans hcell
      have hb1i : b1 < wi.heap.size := by have := HBw.out.size; omega
      obtain ⟨xs, hxs⟩ : ∃ xs, lI Ls j = xs := ⟨_, rfl⟩
      rw [hxs] at hc1 hsee hcell
      obtain ⟨l, hl⟩ : ∃ l, xs.length = l := ⟨_, rfl⟩
      rw [hl] at hc1 hcell
      have HXs := hid hxs
      have HLl := hid hl
      have HSee := hid hsee
      have HCell := hid hcell
      have HG := hid (show isSetP n xs by have h := GS.out j hlt; rwa [hxs] at h)
      have hl30 : l ≤ 30 := by have := set_len HG.out; omega
      clear hrd hcell hsee hxs hl
      have hcall := fun w5 => iIsCyc_any N b off n c q' l c' es xs w5
      by_cases hcy : cycP N es xs
      · have HCY := hid hcy
        clear hcy hcall
        go_wp2_with fail
        refine (iIsCyc_any N b off n c q' l c' es xs _ Hn.out (Hr.out.on HBw.out) G.out HLl.out (HSee.out.on HBw.out) HG.out).mono ?_
        rw [decide_eq_true HCY.out]
        rintro e' w5 ⟨rfl, hb5⟩
        have HB5 := hid (show Below wi.heap.size wi w5 from ⟨hb5.os, hb5.tape, hb5.output, hb5.size, hb5.block⟩)
        have HO5 := hid (hO.out.on HB5.out)
        have HB25 := hid (bfrom hB.out HB5.out)
        clear hb5 hxr hyr hc1
        go_wp2
        go_loopw [28] (fun i wx => ∃ k : Nat, k ≤ l ∧ i = .int .i64 k ∧ Hid (OwnI wx w2.heap.size n (incU (dcU n Ls j) xs k)) ∧ Hid (Below w2.heap.size w2 wx)) (fun i _ => l - (intOf i).toNat)
        case atStart => exact ⟨0, Nat.zero_le _, rfl, HO5, HB25⟩
        case round =>
          obtain ⟨k, hk, rfl, hOk, hBk⟩ := hrel
          clear HO5 HB25
          have hBks := hBk.out.size
          have HBkw := hid (bfrom HB0.out hBk.out)
          have hck := (World.cell?_of_block (w := w) (w' := wr) (a := ⟨b1, o1 + j, none⟩) (HBkw.out.block b1 hb1w)).trans HCell.out
          have hb1k : b1 < wr.heap.size := by have := HBkw.out.size; omega
          obtain ⟨wx, rfl⟩ : ∃ wx : World, wx = wr := ⟨_, rfl⟩
          by_cases hlk : k < l
          · have hlk' : (k : Int) < (l : Int) := by omega
            have hkx : k < xs.length := by have := HLl.out; omega
            obtain ⟨b2, o2, rfl, hrd2⟩ : ∃ b2 o2, q' = some ⟨b2, o2, none⟩ ∧ ReadsI w b2 o2 xs := by
              rcases HSee.out with h | h
              · rw [h] at hkx; simp at hkx
              · exact h
            have hb2w := hrd2.lt (show 0 < xs.length by omega)
            have hb2k : b2 < wx.heap.size := by have := HBkw.out.size; omega
            have hce := (hrd2.on HBkw.out) k hkx
            obtain ⟨E, hE⟩ : ∃ E : Nat, eI xs k = E := ⟨_, (Int.toNat_of_nonneg (HG.out k hkx).1.1).symm⟩
            have hEn : E < n := by have := (HG.out k hkx).1.2; omega
            have hEn' : (E : Int) < (n : Int) := by omega
            rw [hE] at hce
            have hlen : (incU (dcU n Ls j) xs k).length = n := by rw [incU_len, dcU_len]
            have hcE := hOk.out.reads E (by omega)
            rw [Nat.zero_add] at hcE
            have hfE := hOk.out.free E
            have hgz := hOk.out.lt
            have hbd := incU_le (c := dcU n Ls j) (xs := xs) (dcU_le (m := n) (Ls := Ls) (fun i hi => by have h1 := set_len (GS.out i (by rw [← HL.out]; exact hi)); omega) j (by rw [HL.out]; omega)) k E
            obtain ⟨X, hX⟩ : ∃ X, eI (incU (dcU n Ls j) xs k) E = X := ⟨_, rfl⟩
            rw [hX] at hcE hbd
            have hX1 : X < 9223372036854775000 := by omega
            have hX0 := hbd.1
            have HST := hid (show incU (dcU n Ls j) xs (k + 1) = (incU (dcU n Ls j) xs k).set E (X + 1) by
              show incL _ _ = _
              unfold incL
              rw [hE, Int.toNat_natCast, hX])
            have HLn := hid hlen
            rw [hs0] at hcE hfE hgz
            clear hrd2 hE hX hbd hlen
            go_wp2
            go_roundw
            case rel => exact ⟨k + 1, by omega, by go_num, hid (by rw [HST.out, ← hs0]; exact hOk.out.set (by rw [HLn.out]; exact hEn) _), hid (hBk.out.setCell (p := ⟨w.heap.size + 1, E, none⟩) (by show w2.heap.size ≤ w.heap.size + 1; omega) _)⟩
            case measure => simp [intOf]; omega
          · have hkl := hid (show k = l by omega)
            go_wp2
            go_roundw
            case rel => exact ⟨j + 1, by omega, by go_num, hid (fun a ha => by
              by_cases h : a = j
              · subst h; rw [HXs.out]; exact HCY.out
              · exact hC.out a (by omega)), hid (by
              show OwnI wx w2.heap.size n (incU (dcU n Ls j) (lI Ls j) (lI Ls j).length)
              rw [HXs.out, HLl.out, ← hkl.out]
              exact hOk.out), hBk⟩
            case measure => simp [intOf]; omega
      · have HCY := hid hcy
        have HF := hid (show r = false by rw [← HR.out]; exact decide_eq_false (fun h => hcy (by have h2 := h.1 j (by rw [HL.out]; exact hlt); rwa [HXs.out] at h2)))
        clear hcy hcall
        go_wp2_with fail
        refine (iIsCyc_any N b off n c q' l c' es xs _ Hn.out (Hr.out.on HBw.out) G.out HLl.out (HSee.out.on HBw.out) HG.out).mono ?_
        rw [decide_eq_false HCY.out]
        rintro e' w5 ⟨rfl, hb5⟩
        have HB5 := hid (show Below wi.heap.size wi w5 from ⟨hb5.os, hb5.tape, hb5.output, hb5.size, hb5.block⟩)
        clear hb5
        go_wp2
        go_ret
        rw [HF.out]
        exact ⟨rfl, bfrom HBw.out HB5.out⟩
    · have hjm := hid (show j = m by omega)
      have hlen := dcU_len n Ls j
      go_wp2
      go_loopw [42] (fun i wx => ∃ k : Nat, k ≤ n ∧ i = .int .i64 k ∧ Hid (∀ e, e < k → eI (dcU n Ls j) e = 2) ∧ wx = wi) (fun i _ => n - (intOf i).toNat)
      case atStart => exact ⟨0, Nat.zero_le _, rfl, hid (fun e he => absurd he (by omega)), rfl⟩
      case round =>
        obtain ⟨k, hk, rfl, hT, rfl⟩ := hrel
        by_cases hlk : k < n
        · have hlk' : (k : Int) < (n : Int) := by omega
          have hcE := hO.out.reads k (by omega)
          rw [Nat.zero_add] at hcE
          have hgz := hO.out.lt
          obtain ⟨X, hX⟩ : ∃ X, eI (dcU n Ls j) k = X := ⟨_, rfl⟩
          rw [hX] at hcE
          rw [hs0] at hcE hgz
          have HX := hid hX
          clear hX
          cases hx2 : (X != 2)
          · go_wp2
            go_roundw
            case rel => exact ⟨k + 1, by omega, by go_num, hid (fun e he => by
              by_cases h : e = k
              · subst h; rw [HX.out]; simpa using hx2
              · exact hT.out e (by omega)), trivial⟩
            case measure => simp [intOf]; omega
          · have HF := hid (show r = false by
              rw [← HR.out]
              exact decide_eq_false (fun h => by
                have h2 := h.2 k (by rw [Hn.out]; exact hlk)
                rw [Hn.out, HL.out, ← hjm.out, HX.out] at h2
                rw [h2] at hx2
                exact absurd hx2 (by decide)))
            go_wp2
            go_ret
            rw [HF.out]
            exact ⟨rfl, HBw.out⟩
        · have HF := hid (show r = true by
            rw [← HR.out]
            refine decide_eq_true ⟨fun i hi => hC.out i (by rw [hjm.out, ← HL.out]; exact hi), fun e he => ?_⟩
            rw [Hn.out, HL.out, ← hjm.out]
            exact hT.out e (by have := Hn.out; omega))
          go_wp2
          go_ret
          rw [HF.out]
          exact ⟨rfl, HBw.out⟩

end Go.Proofs.Ytogdcoioflcdiaa

/- The code of a graph and a list of sets, in the model: l07Lists. -/
namespace Go.Proofs.Ytogdcoioflcdiaa
open Go.RowKit

set_option maxRecDepth 100000 in
set_option maxHeartbeats 4000000 in
theorem sLists_no (s : Int) (p pq : Option Addr) (n c m mc : Nat) (es : List (Int × Int)) (w : World) (hm : n ≤ 1048576) (hn : es.length = n) (hr : SeesE w p es) (g : ¬ IsG s es) :
    Calls Try.prog 77 #[.agg #[.int .i64 s, .slice p n c], .slice pq m mc] w fun e' w' => e' = .returned (.int .i64 1) ∧ Below w.heap.size w w' := by
  have Hn := hid hn
  have Hr := hid hr
  have G := hid g
  clear hn hr g
  go_enter Try.func77, Try.ntmps77
  go_wp2_with fail
  refine (sIs_any _ _ _ _ es _ (by omega) Hn.out (Hr.out.on (on_alloc _ _))).mono ?_
  rw [decide_eq_false G.out]
  rintro e w2 ⟨rfl, hb2⟩
  have HB2 := hid (bfrom (w := w) (on_alloc _ _) hb2)
  clear hb2
  go_wp2
  go_ret
  exact ⟨rfl, HB2.out⟩

set_option maxRecDepth 100000 in
set_option maxHeartbeats 4000000 in
theorem sLists_yes (s : Int) (b off n c m mc : Nat) (pq : Option Addr) (es : List (Int × Int)) (Ls : List (List Int)) (w : World) (hn : es.length = n) (hr : ReadsE w b off es) (g : IsG s es) (hL : Ls.length = m) (hm9 : m ≤ 1048576) (hl : ∀ i, i < m → (lI Ls i).length ≤ 1048576) (hrl : SeesL w pq Ls) :
    Calls Try.prog 77 #[.agg #[.int .i64 s, .slice (some ⟨b, off, none⟩) n c], .slice pq m mc] w fun e' w' => e' = .returned (.int .i64 (if areSetsP n Ls then 0 else 2)) ∧ Below w.heap.size w w' := by
  have hn30 : n ≤ 30 := by have := isG_len g; omega
  have hn1 : 1 ≤ n := by have h1 := g.1.1.1; have h2 := g.1.1.2.2.2; omega
  have Hn := hid hn
  have Hr := hid hr
  have G := hid g
  have HL := hid hL
  have Hl := hid hl
  have Hrl := hid hrl
  obtain ⟨r, hR⟩ : ∃ r : Int, (if areSetsP n Ls then (0 : Int) else 2) = r := ⟨_, rfl⟩
  rw [hR]
  have HR := hid hR
  clear hn hr g hL hl hrl hR
  go_enter Try.func77, Try.ntmps77
  go_wp2_with fail
  refine (sIs_any _ _ _ _ es _ (by omega) Hn.out (SeesE.on (.inr ⟨b, off, rfl, Hr.out⟩) (on_alloc _ _))).mono ?_
  rw [decide_eq_true G.out]
  rintro e w2 ⟨rfl, hb2⟩
  have HB2 := hid (bfrom (w := w) (on_alloc _ _) hb2)
  have HX2 := hid ((Box.new w s (some ⟨b, off, none⟩) n c 31).on hb2)
  have hz2 := HX2.out.lt
  clear hb2
  have hx2 := HX2.out.1
  have hy2 := HX2.out.2
  go_wp2
  go_loopw [5] (fun i wr => ∃ j : Nat, j ≤ m ∧ i = .int .i64 j ∧ Hid (∀ a, a < j → isSetP n (lI Ls a)) ∧ Hid (Below w2.heap.size w2 wr)) (fun i _ => m - (intOf i).toNat)
  case atStart => exact ⟨0, Nat.zero_le _, rfl, hid (fun e he => absurd he (by omega)), hid (Below.refl _ _)⟩
  case round =>
    obtain ⟨j, hj, rfl, hC, hB⟩ := hrel
    have hBs := hB.out.size
    have HBw := hid (bfrom HB2.out hB.out)
    have HXr := hid (HX2.out.on hB.out)
    have hxr := HXr.out.1
    have hyr := HXr.out.2
    have hzr := HXr.out.lt
    obtain ⟨wi, rfl⟩ : ∃ wi : World, wi = wr := ⟨_, rfl⟩
    by_cases hlt : j < m
    · have hlt' : (j : Int) < (m : Int) := by omega
      obtain ⟨b1, o1, rfl, hrd⟩ : ∃ b1 o1, pq = some ⟨b1, o1, none⟩ ∧ ReadsL w b1 o1 Ls := by
        rcases Hrl.out with h | h
        · have := HL.out; rw [h] at this; simp at this; omega
        · exact h
      obtain ⟨q', c', hcell, hsee⟩ := hrd j (by rw [HL.out]; exact hlt)
      have hb1w := World.block_lt_of_cell? w _ hcell
      dsimp only at hb1w
      have hc1 := (World.cell?_of_block (w := w) (w' := wi) (a := ⟨b1, o1 + j, none⟩) (HBw.out.block b1 hb1w)).trans hcell
      have hb1i : b1 < wi.heap.size := by have := HBw.out.size; omega
      obtain ⟨xs, hxs⟩ : ∃ xs, lI Ls j = xs := ⟨_, rfl⟩
      have hl9 := Hl.out j hlt
      rw [hxs] at hc1 hsee hl9
      obtain ⟨l, hl⟩ : ∃ l, xs.length = l := ⟨_, rfl⟩
      rw [hl] at hc1 hl9
      have HXs := hid hxs
      have HLl := hid hl
      have HSee := hid hsee
      clear hrd hcell hsee hxs hl
      by_cases hcy : isSetP n xs
      all_goals
        have HCY := hid hcy
        clear hcy
        go_wp2
        go_still_tail 7, (by kernel_rfl)
        go_wp2_with fail
        refine (sSet_any q' l c' n xs _ hn1 hn30 HLl.out hl9 (HSee.out.on (bfrom HBw.out (Below.refl _ _).drew))).mono ?_
        unfold setCode
        first | rw [if_pos HCY.out] | rw [if_neg HCY.out]
        rintro e' w5 ⟨rfl, hb5⟩
        have HB5 := hid (show Below wi.heap.size wi w5 from ⟨hb5.os, hb5.tape, hb5.output, hb5.size, hb5.block⟩)
        clear hb5
      · go_wp2
        go_roundw
        case rel => exact ⟨j + 1, by omega, by go_num, hid (fun a ha => by
          by_cases h : a = j
          · subst h; rw [HXs.out]; exact HCY.out
          · exact hC.out a (by omega)), hid (bfrom hB.out HB5.out)⟩
        case measure => simp [intOf]; omega
      · have HF := hid (show r = 2 by
          rw [← HR.out]
          exact if_neg (fun h => HCY.out (by have h2 := h j (by rw [HL.out]; exact hlt); rwa [HXs.out] at h2)))
        go_wp2
        go_ret
        rw [HF.out]
        exact ⟨rfl, bfrom HBw.out HB5.out⟩
    · have HF := hid (show r = 0 by
        rw [← HR.out]
        exact if_pos (fun i hi => hC.out i (by have := HL.out; omega)))
      go_wp2
      go_ret
      rw [HF.out]
      exact ⟨rfl, HBw.out⟩

end Go.Proofs.Ytogdcoioflcdiaa

namespace Go.Proofs.Ytogdcoioflcdiaa
open Go.RowKit

def fIsDoubleCover (s : Int) (es : List (Int × Int)) (Ls : List (List Int)) : Bool × Int := if IsG s es then (if areSetsP es.length Ls then (decide (dblP s.toNat es Ls), 0) else (false, 2)) else (false, 1)
theorem sLists_any (s : Int) (p pq : Option Addr) (n c m mc : Nat) (es : List (Int × Int)) (Ls : List (List Int)) (w : World) (hm : n ≤ 1048576) (hn : es.length = n) (hr : SeesE w p es) (hL : Ls.length = m) (hm9 : m ≤ 1048576) (hl : ∀ i, i < m → (lI Ls i).length ≤ 1048576) (hrl : SeesL w pq Ls) :
    Calls Try.prog 77 #[.agg #[.int .i64 s, .slice p n c], .slice pq m mc] w fun e' w' => e' = .returned (.int .i64 (setsCode s es Ls)) ∧ Below w.heap.size w w' := by
  unfold setsCode
  by_cases g : IsG s es
  · rw [if_pos g, hn]
    obtain ⟨b, off, rfl, rd⟩ := isG_sees g hr
    exact sLists_yes s b off n c m mc pq es Ls w hn rd g hL hm9 hl hrl
  · rw [if_neg g]
    exact sLists_no s p pq n c m mc es w hm hn hr g

set_option maxRecDepth 100000 in
set_option maxHeartbeats 4000000 in
theorem sIsDoubleCover_code (s q0 : Int) (p ps : Option Addr) (n c k f : Nat) (es : List (Int × Int)) (Ls : List (List Int)) (w : World) (hm : n ≤ 1048576) (hn : es.length = n) (hr : SeesE w p es) (hk9 : k ≤ 1048576) (hx : Ls.length = k) (hlx : ∀ i, i < k → (lI Ls i).length ≤ 1048576) (hrx : SeesL w ps Ls) (hq : setsCode s es Ls = q0) (hne : (q0 != 0) = true) :
    Calls Try.prog 37 #[.agg #[.int .i64 s, .slice p n c], .slice ps k f] w fun e' w' => e' = .returned (.tuple #[.bool false, .int .i64 q0]) ∧ Below w.heap.size w w' := by
  have Hn := hid hn
  have Hr := hid hr
  have Hx := hid hx
  have Hlx := hid hlx
  have Hrx := hid hrx
  have HQ := hid hq
  clear hn hr hx hlx hrx hq
  go_enter Try.func37, Try.ntmps37
  go_wp2_with fail
  refine (sLists_any s p ps n c k f es Ls _ hm Hn.out (Hr.out.on (on_alloc _ _)) Hx.out hk9 Hlx.out (Hrx.out.on (on_alloc _ _))).mono ?_
  rw [HQ.out]
  rintro e w2 ⟨rfl, hb2⟩
  have HB2 := hid (bfrom (w := w) (on_alloc _ _) hb2)
  clear hb2
  go_wp2
  go_ret2
  exact ⟨rfl, HB2.out⟩

set_option maxRecDepth 100000 in
set_option maxHeartbeats 4000000 in
theorem sIsDoubleCover_yes (N : Nat) (b off n c k f : Nat) (ps : Option Addr) (es : List (Int × Int)) (Ls : List (List Int)) (w : World) (hn : es.length = n) (hr : ReadsE w b off es) (g : IsG N es) (hk9 : k ≤ 1048576) (hx : Ls.length = k) (hlx : ∀ i, i < k → (lI Ls i).length ≤ 1048576) (hrx : SeesL w ps Ls) (gs : areSetsP n Ls) :
    Calls Try.prog 37 #[.agg #[.int .i64 N, .slice (some ⟨b, off, none⟩) n c], .slice ps k f] w fun e' w' => e' = .returned (.tuple #[.bool (decide (dblP N es Ls)), .int .i64 0]) ∧ Below w.heap.size w w' := by
  have hn30 : n ≤ 30 := by have := isG_len g; omega
  have Hn := hid hn
  have Hr := hid hr
  have G := hid g
  have Hx := hid hx
  have Hlx := hid hlx
  have Hrx := hid hrx
  have GS := hid (show ∀ i, i < k → isSetP n (lI Ls i) from fun i hi => gs i (by rw [hx]; exact hi))
  have HQ := hid (show setsCode N es Ls = 0 by unfold setsCode; rw [if_pos g, hn, if_pos gs])
  clear hn hr g hx hlx hrx gs
  go_enter Try.func37, Try.ntmps37
  go_wp2_with fail
  refine (sLists_any N (some ⟨b, off, none⟩) ps n c k f es Ls _ (by omega) Hn.out (SeesE.on (.inr ⟨b, off, rfl, Hr.out⟩) (on_alloc _ _)) Hx.out hk9 Hlx.out (Hrx.out.on (on_alloc _ _))).mono ?_
  rw [HQ.out]
  rintro e w3 ⟨rfl, hb3⟩
  have HB3 := hid (bfrom (w := w) (on_alloc _ _) hb3)
  have hX3 := (Box.new w N (some ⟨b, off, none⟩) n c 31).on hb3
  have hx3 := hX3.1
  have hy3 := hX3.2
  have hz3 := hX3.lt
  clear hX3 hb3
  go_wp2_with fail
  refine (sDouble_any N b off n c k f ps es Ls _ Hn.out (Hr.out.on HB3.out) G.out Hx.out hk9 (Hrx.out.on HB3.out) GS.out).mono ?_
  rintro e w4 ⟨rfl, hb4⟩
  have HB4 := hid (bfrom HB3.out hb4)
  clear hx3 hy3 hz3 hb4
  go_wp2
  go_ret2
  exact ⟨rfl, HB4.out⟩

theorem sIsDoubleCover_any (s : Int) (p : Option Addr) (n c : Nat) (es : List (Int × Int)) (ps : Option Addr) (k f : Nat) (Ls : List (List Int)) (w : World) (hm : n ≤ 1048576) (hn : es.length = n) (hr : SeesE w p es) (hk : k ≤ 1048576) (hx : Ls.length = k) (hlx : ∀ i, i < k → (lI Ls i).length ≤ 1048576) (hrx : SeesL w ps Ls) :
    Calls Try.prog 37 #[.agg #[.int .i64 s, .slice p n c], .slice ps k f] w fun e' w' => e' = .returned (.tuple #[.bool (fIsDoubleCover s es Ls).1, .int .i64 (fIsDoubleCover s es Ls).2]) ∧ Below w.heap.size w w' := by
  unfold fIsDoubleCover
  by_cases g : IsG s es
  · rw [if_pos g]
    obtain ⟨N, rfl⟩ : ∃ N : Nat, s = N := ⟨_, (Int.toNat_of_nonneg (by have := g.1.1.1; omega)).symm⟩
    rw [Int.toNat_natCast]
    by_cases gs : areSetsP es.length Ls
    · rw [if_pos gs]
      obtain ⟨b, off, rfl, rd⟩ := isG_sees g hr
      exact sIsDoubleCover_yes N b off n c k f ps es Ls w hn rd g hk hx hlx hrx (by rw [← hn]; exact gs)
    · rw [if_neg gs]
      exact sIsDoubleCover_code N 2 p ps n c k f es Ls w hm hn hr hk hx hlx hrx (by unfold setsCode; rw [if_pos g, if_neg gs]) rfl
  · rw [if_neg g]
    exact sIsDoubleCover_code s 1 p ps n c k f es Ls w hm hn hr hk hx hlx hrx (by unfold setsCode; rw [if_neg g]) rfl

set_option maxRecDepth 100000 in
set_option maxHeartbeats 4000000 in
theorem iIsDoubleCover_code (s q0 : Int) (p ps : Option Addr) (n c k f : Nat) (es : List (Int × Int)) (Ls : List (List Int)) (w : World) (hm : n ≤ 1048576) (hn : es.length = n) (hr : SeesE w p es) (hk9 : k ≤ 1048576) (hx : Ls.length = k) (hlx : ∀ i, i < k → (lI Ls i).length ≤ 1048576) (hrx : SeesL w ps Ls) (hq : setsCode s es Ls = q0) (hne : (q0 != 0) = true) :
    Calls Try.prog 39 #[.agg #[.int .i64 s, .slice p n c], .slice ps k f] w fun e' w' => e' = .returned (.tuple #[.bool false, .int .i64 q0]) ∧ Below w.heap.size w w' := by
  have Hn := hid hn
  have Hr := hid hr
  have Hx := hid hx
  have Hlx := hid hlx
  have Hrx := hid hrx
  have HQ := hid hq
  clear hn hr hx hlx hrx hq
  go_enter Try.func39, Try.ntmps39
  go_wp2_with fail
  refine (iSets_any s p ps n c k f es Ls _ hm Hn.out (Hr.out.on (on_alloc _ _)) Hx.out hk9 Hlx.out (Hrx.out.on (on_alloc _ _))).mono ?_
  rw [HQ.out]
  rintro e w2 ⟨rfl, hb2⟩
  have HB2 := hid (bfrom (w := w) (on_alloc _ _) hb2)
  clear hb2
  go_wp2
  go_ret2
  exact ⟨rfl, HB2.out⟩

set_option maxRecDepth 100000 in
set_option maxHeartbeats 4000000 in
theorem iIsDoubleCover_yes (N : Nat) (b off n c k f : Nat) (ps : Option Addr) (es : List (Int × Int)) (Ls : List (List Int)) (w : World) (hn : es.length = n) (hr : ReadsE w b off es) (g : IsG N es) (hk9 : k ≤ 1048576) (hx : Ls.length = k) (hlx : ∀ i, i < k → (lI Ls i).length ≤ 1048576) (hrx : SeesL w ps Ls) (gs : areSetsP n Ls) :
    Calls Try.prog 39 #[.agg #[.int .i64 N, .slice (some ⟨b, off, none⟩) n c], .slice ps k f] w fun e' w' => e' = .returned (.tuple #[.bool (decide (dblP N es Ls)), .int .i64 0]) ∧ Below w.heap.size w w' := by
  have hn30 : n ≤ 30 := by have := isG_len g; omega
  have Hn := hid hn
  have Hr := hid hr
  have G := hid g
  have Hx := hid hx
  have Hlx := hid hlx
  have Hrx := hid hrx
  have GS := hid (show ∀ i, i < k → isSetP n (lI Ls i) from fun i hi => gs i (by rw [hx]; exact hi))
  have HQ := hid (show setsCode N es Ls = 0 by unfold setsCode; rw [if_pos g, hn, if_pos gs])
  clear hn hr g hx hlx hrx gs
  go_enter Try.func39, Try.ntmps39
  go_wp2_with fail
  refine (iSets_any N (some ⟨b, off, none⟩) ps n c k f es Ls _ (by omega) Hn.out (SeesE.on (.inr ⟨b, off, rfl, Hr.out⟩) (on_alloc _ _)) Hx.out hk9 Hlx.out (Hrx.out.on (on_alloc _ _))).mono ?_
  rw [HQ.out]
  rintro e w3 ⟨rfl, hb3⟩
  have HB3 := hid (bfrom (w := w) (on_alloc _ _) hb3)
  have hX3 := (Box.new w N (some ⟨b, off, none⟩) n c 31).on hb3
  have hx3 := hX3.1
  have hy3 := hX3.2
  have hz3 := hX3.lt
  clear hX3 hb3
  go_wp2_with fail
  refine (iDouble_any N b off n c k f ps es Ls _ Hn.out (Hr.out.on HB3.out) G.out Hx.out hk9 (Hrx.out.on HB3.out) GS.out).mono ?_
  rintro e w4 ⟨rfl, hb4⟩
  have HB4 := hid (bfrom HB3.out hb4)
  clear hx3 hy3 hz3 hb4
  go_wp2
  go_ret2
  exact ⟨rfl, HB4.out⟩

theorem iIsDoubleCover_any (s : Int) (p : Option Addr) (n c : Nat) (es : List (Int × Int)) (ps : Option Addr) (k f : Nat) (Ls : List (List Int)) (w : World) (hm : n ≤ 1048576) (hn : es.length = n) (hr : SeesE w p es) (hk : k ≤ 1048576) (hx : Ls.length = k) (hlx : ∀ i, i < k → (lI Ls i).length ≤ 1048576) (hrx : SeesL w ps Ls) :
    Calls Try.prog 39 #[.agg #[.int .i64 s, .slice p n c], .slice ps k f] w fun e' w' => e' = .returned (.tuple #[.bool (fIsDoubleCover s es Ls).1, .int .i64 (fIsDoubleCover s es Ls).2]) ∧ Below w.heap.size w w' := by
  unfold fIsDoubleCover
  by_cases g : IsG s es
  · rw [if_pos g]
    obtain ⟨N, rfl⟩ : ∃ N : Nat, s = N := ⟨_, (Int.toNat_of_nonneg (by have := g.1.1.1; omega)).symm⟩
    rw [Int.toNat_natCast]
    by_cases gs : areSetsP es.length Ls
    · rw [if_pos gs]
      obtain ⟨b, off, rfl, rd⟩ := isG_sees g hr
      exact iIsDoubleCover_yes N b off n c k f ps es Ls w hn rd g hk hx hlx hrx (by rw [← hn]; exact gs)
    · rw [if_neg gs]
      exact iIsDoubleCover_code N 2 p ps n c k f es Ls w hm hn hr hk hx hlx hrx (by unfold setsCode; rw [if_pos g, if_neg gs]) rfl
  · rw [if_neg g]
    exact iIsDoubleCover_code s 1 p ps n c k f es Ls w hm hn hr hk hx hlx hrx (by unfold setsCode; rw [if_neg g]) rfl

end Go.Proofs.Ytogdcoioflcdiaa

namespace Go.Proofs.Ytogdcoioflcdiaa
open Go.RowKit

set_option maxRecDepth 100000 in
set_option maxHeartbeats 8000000 in
theorem lawIsDoubleCover_big0 (s0 : Int) (p0 : Option Addr) (n0 c0 : Nat) (p1 : Option Addr) (n1 c1 : Nat) (w : World) (m0 : n0 ≤ 9223372036854775807) (bg : 1048576 < n0) :
    Calls Try.prog 8 #[.agg #[.int .i64 s0, .slice p0 n0 c0], .slice p1 n1 c1] w fun e' w' => e' = .returned (.bool true) ∧ Below w.heap.size w w' := by
  have BG := hid bg
  clear bg
  go_enter Try.func8, Try.ntmps8
  go_wp2_with fail
  refine (szGraph_any _ _ _ _ _ _ m0 (by omega) (by omega)).mono ?_
  rw [if_pos (by have := BG.out; omega)]
  rintro e' w2 ⟨rfl, hb2⟩
  have hB2 := bfrom (w := w) (by go_grown) hb2
  go_wp2
  go_ret
  exact ⟨rfl, hB2⟩

set_option maxRecDepth 100000 in
set_option maxHeartbeats 8000000 in
theorem lawIsDoubleCover_big1 (s0 : Int) (p0 : Option Addr) (n0 c0 : Nat) (p1 : Option Addr) (n1 c1 : Nat) (es1 : List (List Int)) (w : World) (m0 : n0 ≤ 1048576) (hn1 : es1.length = n1) (m1 : n1 ≤ 9223372036854775807) (hrow : ∀ i, i < n1 → (lI es1 i).length ≤ 9223372036854775807) (hr1 : SeesL w p1 es1) (hno : ¬ ((n1 : Int) + (sumLL es1 n1 : Int) ≤ 1048576 - n0)) :
    Calls Try.prog 8 #[.agg #[.int .i64 s0, .slice p0 n0 c0], .slice p1 n1 c1] w fun e' w' => e' = .returned (.bool true) ∧ Below w.heap.size w w' := by
  have hge0 : ¬ ((1048576 : Int) - n0 < 0) := by omega
  have Hn1 := hid hn1
  have Hrow := hid hrow
  have Hr1 := hid hr1
  have HNO := hid hno
  clear hn1 hrow hr1 hno
  go_enter Try.func8, Try.ntmps8
  go_wp2_with fail
  refine (szGraph_any _ _ _ _ _ _ (by omega) (by omega) (by omega)).mono ?_
  rw [if_neg (by omega)]
  rintro e' w2 ⟨rfl, hb2⟩
  have HB2 := hid (bfrom (w := w) (on_alloc _ _) hb2)
  clear hb2
  go_wp2_with fail
  refine (szLists_any p1 c1 n1 (1048576 - n0) es1 _ (by omega) (by omega) m1 Hn1.out Hrow.out (Hr1.out.on HB2.out)).mono ?_
  rintro e' w9 ⟨⟨z, rfl, hz⟩, rfl⟩
  have hz0 : z < 0 := by have := HNO.out; omega
  clear hz
  go_wp2
  go_ret
  exact ⟨rfl, HB2.out⟩

set_option maxRecDepth 100000 in
set_option maxHeartbeats 8000000 in
theorem lawIsDoubleCover_small (s0 : Int) (p0 : Option Addr) (n0 c0 : Nat) (es0 : List (Int × Int)) (p1 : Option Addr) (n1 c1 : Nat) (es1 : List (List Int)) (w : World) (hn0 : es0.length = n0) (hm0 : n0 ≤ 1048576) (hr0 : SeesE w p0 es0) (hn1 : es1.length = n1) (hm1 : n1 ≤ 1048576) (hrow1 : ∀ i, i < n1 → (lI es1 i).length ≤ 1048576) (hr1 : SeesL w p1 es1) (hfit : (n1 : Int) + (sumLL es1 n1 : Int) ≤ 1048576 - n0) :
    Calls Try.prog 8 #[.agg #[.int .i64 s0, .slice p0 n0 c0], .slice p1 n1 c1] w fun e' w' => e' = .returned (.bool true) ∧ Below w.heap.size w w' := by
  have hq0 : n0 ≤ 9223372036854775807 := by omega
  have hq1 : n1 ≤ 9223372036854775807 := by omega
  have hge0 : ¬ ((1048576 : Int) - n0 < 0) := by omega
  have Hn0 := hid hn0
  have Hm0 := hid hm0
  have Hr0 := hid hr0
  have Hn1 := hid hn1
  have Hm1 := hid hm1
  have Hr1 := hid hr1
  have Hrow1 := hid hrow1
  have HFit := hid hfit
  obtain ⟨r0, cd, hR⟩ : ∃ r0 cd, fIsDoubleCover s0 es0 es1 = (r0, cd) := ⟨_, _, rfl⟩
  have hne1 : (r0 != r0) = false := by simp
  have hne0 : (cd != cd) = false := by simp
  have hS := fun (q0 : Option Addr) (cc0 : Nat) (q1 : Option Addr) (cc1 : Nat) (ww : World) (hh0 : SeesE ww q0 es0) (hh1 : SeesL ww q1 es1) => sIsDoubleCover_any s0 q0 n0 cc0 es0 q1 n1 cc1 es1 ww hm0 hn0 hh0 hm1 hn1 hrow1 hh1
  have hI := fun (q0 : Option Addr) (cc0 : Nat) (q1 : Option Addr) (cc1 : Nat) (ww : World) (hh0 : SeesE ww q0 es0) (hh1 : SeesL ww q1 es1) => iIsDoubleCover_any s0 q0 n0 cc0 es0 q1 n1 cc1 es1 ww hm0 hn0 hh0 hm1 hn1 hrow1 hh1
  rw [hR] at hS hI
  dsimp only at hS hI
  have HS := hid hS
  have HI := hid hI
  have hbb1 : n1 ≤ 1048576 := hm1
  clear hn0 hm0 hr0 hn1 hm1 hr1 hrow1 hfit hR hS hI
  go_enter Try.func8, Try.ntmps8
  go_wp2_with fail
  have HA0_1 : Hid (Box (w.alloc (.cells #[.int .i64 s0, .slice p0 n0 c0] 24)) (w.heap.size) s0 p0 n0 c0) := hid (by have h := (Box.new w s0 p0 n0 c0 24); first | exact h | simpa only [World.size_alloc] using h)
  have HB1 : Hid (Below w.heap.size w (w.alloc (.cells #[.int .i64 s0, .slice p0 n0 c0] 24))) := hid (bfrom (Below.refl _ _) (on_alloc _ (.cells #[.int .i64 s0, .slice p0 n0 c0] 24)))
  refine (szGraph_any _ _ _ _ _ _ hq0 (by omega) (by omega)).mono ?_
  rw [if_neg (by omega)]
  rintro e' w2 ⟨rfl, hb2⟩
  have HA0_2 := hid (HA0_1.out.on hb2)
  have HB2 := hid (bfrom HB1.out hb2)
  have hs2 : w.heap.size + 1 ≤ w2.heap.size := by have h := hb2.size; simp only [World.size_alloc] at h; omega
  clear HA0_1 HB1 hb2
  have hxA0 := HA0_2.out.1
  have hyA0 := HA0_2.out.2
  have hzA0 := HA0_2.out.lt
  go_wp2_with fail
  refine (szLists_any p1 c1 n1 (1048576 - n0) es1 _ (by omega) (by omega) hq1 Hn1.out (fun i hi => by have := Hrow1.out i hi; omega) (Hr1.out.on HB2.out)).mono ?_
  rintro e' w9 ⟨⟨z, rfl, hz⟩, hw9⟩
  rw [hw9]
  have hz0 : ¬ z < 0 := by have := HFit.out; omega
  clear hz hw9
  go_wp2_with fail
  refine (toGraph_any _ _ _ _ es0 _ Hn0.out Hm0.out (Hr0.out.on HB2.out)).mono ?_
  rintro e' w3 ⟨gT0, rfl, hgT0, hoT0, hb3⟩
  have hfT0 := FreshE.of_own hoT0 Hn0.out hgT0
  clear hoT0 hgT0
  have HA0_3 := hid (HA0_2.out.on hb3)
  have HB3 := hid (bfrom HB2.out hb3)
  have hs3 : w2.heap.size ≤ w3.heap.size := by have h := hb3.size; omega
  clear hxA0 hyA0 hzA0
  clear HA0_2 HB2 hb3
  have HT0_3 := hid hfT0
  have hq := fun g h => hfT0.own (g := g) h
  have QT0 := hid hq
  clear hfT0 hq
  have hxA0 := HA0_3.out.1
  have hyA0 := HA0_3.out.2
  have hzA0 := HA0_3.out.lt
  go_wp2_with fail
  refine (toLists_sees _ _ _ es1 _ Hn1.out Hm1.out Hrow1.out (Hr1.out.on HB3.out)).mono ?_
  rintro e' w4 ⟨gT1, rfl, hgT1, hoT1, hb4⟩
  have hfT1 := hoT1
  clear hoT1 hgT1
  have HA0_4 := hid (HA0_3.out.on hb4)
  have HT0_4 := hid (HT0_3.out.on hb4)
  have HB4 := hid (bfrom HB3.out hb4)
  have hs4 : w3.heap.size ≤ w4.heap.size := by have h := hb4.size; omega
  clear hxA0 hyA0 hzA0
  clear HA0_3 HT0_3 HB3 hb4
  have HT1_4 := hid hfT1
  clear hfT1
  have hxA0 := HA0_4.out.1
  have hyA0 := HA0_4.out.2
  have hzA0 := HA0_4.out.lt
  go_wp2_with fail
  refine (HS.out _ _ _ _ _ HT0_4.out.sees HT1_4.out).mono ?_
  rintro e' w5 ⟨rfl, hb5⟩
  have HA0_5 := hid (HA0_4.out.on hb5)
  have HT0_5 := hid (HT0_4.out.on hb5)
  have HT1_5 := hid (HT1_4.out.on hb5)
  have HB5 := hid (bfrom HB4.out hb5)
  have hs5 : w4.heap.size ≤ w5.heap.size := by have h := hb5.size; omega
  clear hxA0 hyA0 hzA0
  clear HA0_4 HT0_4 HT1_4 HB4 hb5
  clear HT0_5
  clear HT1_5
  have hxA0 := HA0_5.out.1
  have hyA0 := HA0_5.out.2
  have hzA0 := HA0_5.out.lt
  go_wp2_with fail
  refine (toGraph_any _ _ _ _ es0 _ Hn0.out Hm0.out (Hr0.out.on HB5.out)).mono ?_
  rintro e' w6 ⟨gX0, rfl, hgX0, hoX0, hb6⟩
  have hfX0 := FreshE.of_own hoX0 Hn0.out hgX0
  clear hoX0 hgX0
  have HA0_6 := hid (HA0_5.out.on hb6)
  have HB6 := hid (bfrom HB5.out hb6)
  have hs6 : w5.heap.size ≤ w6.heap.size := by have h := hb6.size; omega
  clear hxA0 hyA0 hzA0
  clear HA0_5 HB5 hb6
  have HX0_6 := hid hfX0
  have hq := fun g h => hfX0.own (g := g) h
  have QX0 := hid hq
  clear hfX0 hq
  have hxA0 := HA0_6.out.1
  have hyA0 := HA0_6.out.2
  have hzA0 := HA0_6.out.lt
  go_wp2_with fail
  refine (toLists_sees _ _ _ es1 _ Hn1.out Hm1.out Hrow1.out (Hr1.out.on (bfrom HB6.out (on_alloc _ _)))).mono ?_
  rintro e' w7 ⟨gX1, rfl, hgX1, hoX1, hb7⟩
  have hfX1 := hoX1
  clear hoX1 hgX1
  have HA0_7 := hid ((HA0_6.out.on (on_alloc _ _)).on hb7)
  have HX0_7 := hid ((HX0_6.out.on (on_alloc _ _)).on hb7)
  have HXB0_7 := hid ((Box.new w6 s0 (some ⟨gX0, 0, none⟩) n0 n0 31).on hb7)
  have HB7 := hid (bfrom (bfrom HB6.out (on_alloc _ _)) hb7)
  have hs7 : w6.heap.size + 1 ≤ w7.heap.size := by have h := hb7.size; simp only [World.size_alloc] at h; omega
  clear hxA0 hyA0 hzA0
  clear HA0_6 HX0_6 HB6 hb7
  have HX1_7 := hid hfX1
  clear hfX1
  have hxA0 := HA0_7.out.1
  have hyA0 := HA0_7.out.2
  have hzA0 := HA0_7.out.lt
  have hxXB0 := HXB0_7.out.1
  have hyXB0 := HXB0_7.out.2
  have hzXB0 := HXB0_7.out.lt
  go_wp2_with fail
  refine (HI.out _ _ _ _ _ HX0_7.out.sees HX1_7.out).mono ?_
  rintro e' w8 ⟨rfl, hb8⟩
  have HA0_8 := hid (HA0_7.out.on hb8)
  have HX0_8 := hid (HX0_7.out.on hb8)
  have HXB0_8 := hid (HXB0_7.out.on hb8)
  have HX1_8 := hid (HX1_7.out.on hb8)
  have HB8 := hid (bfrom HB7.out hb8)
  have hs8 : w7.heap.size ≤ w8.heap.size := by have h := hb8.size; omega
  clear hxA0 hyA0 hzA0 hxXB0 hyXB0 hzXB0
  clear HA0_7 HX0_7 HXB0_7 HX1_7 HB7 hb8
  have hxA0 := HA0_8.out.1
  have hyA0 := HA0_8.out.2
  have hzA0 := HA0_8.out.lt
  have hxXB0 := HXB0_8.out.1
  have hyXB0 := HXB0_8.out.2
  have hzXB0 := HXB0_8.out.lt
  go_upto_region 14 with fail
  go_cut [52] (fun u wx => u = .bool false ∧ Hid (Below w8.heap.size w8 wx))
  case first =>
    go_region_with (first
      | (go_at_call 17; refine (toGraph_any _ _ _ _ es0 _ Hn0.out Hm0.out ?_).mono ?_; (first | exact Hr0.out.on HB8.out | exact Hr0.out.on HB8.out.drew); rintro e' w9 ⟨gY0, rfl, hgY0, hoY0, hb9⟩; have HoY0 := hid hoY0; clear hoY0; have huXB0 := ((bcells hb9).1 _ _ hzXB0).trans hxXB0; have hvXB0 := ((bcells hb9).1 _ _ hzXB0).trans hyXB0)
      | (go_at_call 21; refine (eqGraph_self _ _ _ _ _ _ es0 _ Hn0.out hq0 ?_ ?_).mono ?_; (exact (HX0_8.out.drew.on hb9).sees); (exact HoY0.out.sees); rintro e' w10 ⟨rfl, hb10⟩))
    all_goals (go_wp2_with fail; go_meet; exact ⟨rfl, hid (bfrom (bfrom (Below.refl _ _).drew hb9) hb10)⟩)
  case rest =>
  obtain ⟨rfl, hcb⟩ := hcut
  obtain ⟨w11, rfl⟩ : ∃ w11, w11 = wc := ⟨_, rfl⟩
  have hb11 := hcb.out
  clear hcb
  have HA0_11 := hid (HA0_8.out.on hb11)
  have HX0_11 := hid (HX0_8.out.on hb11)
  have HXB0_11 := hid (HXB0_8.out.on hb11)
  have HX1_11 := hid (HX1_8.out.on hb11)
  have HB11 := hid (bfrom HB8.out hb11)
  have hs11 : w8.heap.size ≤ w11.heap.size := hb11.size
  clear hxA0 hyA0 hzA0 hxXB0 hyXB0 hzXB0
  clear HA0_8 HX0_8 HXB0_8 HX1_8 HB8 hb11
  have hxA0 := HA0_11.out.1
  have hyA0 := HA0_11.out.2
  have hzA0 := HA0_11.out.lt
  have hxXB0 := HXB0_11.out.1
  have hyXB0 := HXB0_11.out.2
  have hzXB0 := HXB0_11.out.lt
  go_wp2_with fail
  refine (toLists_sees _ _ _ es1 _ Hn1.out Hm1.out Hrow1.out (Hr1.out.on HB11.out)).mono ?_
  rintro e' w12 ⟨gY1, rfl, hgY1, hoY1, hb12⟩
  have hfY1 := hoY1
  clear hoY1 hgY1
  have HA0_12 := hid (HA0_11.out.on hb12)
  have HX0_12 := hid (HX0_11.out.on hb12)
  have HXB0_12 := hid (HXB0_11.out.on hb12)
  have HX1_12 := hid (HX1_11.out.on hb12)
  have HB12 := hid (bfrom HB11.out hb12)
  have hs12 : w11.heap.size ≤ w12.heap.size := by have h := hb12.size; omega
  clear hxA0 hyA0 hzA0 hxXB0 hyXB0 hzXB0
  clear HA0_11 HX0_11 HXB0_11 HX1_11 HB11 hb12
  have HY1_12 := hid hfY1
  clear hfY1
  have hxA0 := HA0_12.out.1
  have hyA0 := HA0_12.out.2
  have hzA0 := HA0_12.out.lt
  have hxXB0 := HXB0_12.out.1
  have hyXB0 := HXB0_12.out.2
  have hzXB0 := HXB0_12.out.lt
  go_wp2_with fail
  refine (eqLists_self _ _ _ _ _ es1 _ Hn1.out Hm1.out Hrow1.out HX1_12.out HY1_12.out).mono ?_
  rintro e' w13 ⟨rfl, hb13⟩
  have HA0_13 := hid (HA0_12.out.on hb13)
  have HX0_13 := hid (HX0_12.out.on hb13)
  have HXB0_13 := hid (HXB0_12.out.on hb13)
  have HX1_13 := hid (HX1_12.out.on hb13)
  have HY1_13 := hid (HY1_12.out.on hb13)
  have HB13 := hid (bfrom HB12.out hb13)
  have hs13 : w12.heap.size ≤ w13.heap.size := by have h := hb13.size; omega
  clear hxA0 hyA0 hzA0 hxXB0 hyXB0 hzXB0
  clear HA0_12 HX0_12 HXB0_12 HX1_12 HY1_12 HB12 hb13
  clear HY1_13
  go_wp2
  go_ret
  exact ⟨rfl, HB13.out⟩

theorem lawIsDoubleCover_any (s0 : Int) (p0 : Option Addr) (n0 c0 : Nat) (es0 : List (Int × Int)) (p1 : Option Addr) (n1 c1 : Nat) (es1 : List (List Int)) (w : World) (hn0 : es0.length = n0) (hl0 : n0 ≤ 9223372036854775807) (hr0 : SeesE w p0 es0) (hn1 : es1.length = n1) (hl1 : n1 ≤ 9223372036854775807) (hrow1 : ∀ i, i < n1 → (lI es1 i).length ≤ 9223372036854775807) (hr1 : SeesL w p1 es1) :
    Calls Try.prog 8 #[.agg #[.int .i64 s0, .slice p0 n0 c0], .slice p1 n1 c1] w fun e' w' => e' = .returned (.bool true) ∧ Below w.heap.size w w' := by
  rcases Nat.lt_or_ge 1048576 n0 with h0 | h0
  · exact lawIsDoubleCover_big0 s0 p0 n0 c0 p1 n1 c1 w hl0 h0
  by_cases hf : (n1 : Int) + (sumLL es1 n1 : Int) ≤ 1048576 - n0
  · exact lawIsDoubleCover_small s0 p0 n0 c0 es0 p1 n1 c1 es1 w hn0 h0 hr0 hn1 (by omega) (fun i hi => by have := sumLL_lt es1 hi; omega) hr1 hf
  · exact lawIsDoubleCover_big1 s0 p0 n0 c0 p1 n1 c1 es1 w h0 hn1 hl1 hrow1 hr1 hf

end Go.Proofs.Ytogdcoioflcdiaa
