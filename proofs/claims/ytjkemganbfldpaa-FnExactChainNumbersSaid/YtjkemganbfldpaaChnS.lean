/- Chains in the model: l02Chain. -/
import Derived.Test.YtjkemganbfldpaaChnB
import Derived.Test.YtjkemganbfldpaaOwnMore
import Derived.Test.YtjkemganbfldpaaSpecAt
import Derived.Deep.AppendLies
import Derived.Deep.DeepMust
import Derived.StillTailTactics
import Derived.BigQuiet
namespace Go.Proofs.Ytjkemganbfldpaa
open Go.RowKit

theorem infoBh : (Try.prog.info? 4).map (fun i => (i.zero, i.size, i.bytes)) = some (some (.bool false), 1, 1) := by kernel_rfl
/-- The ends of an edge, by number. -/
def endH (es : List (Int × Int)) (e k : Nat) : Int := if k = 0 then eA es e else eB es e
theorem reads_endH {w : World} {b off e k : Nat} {es : List (Int × Int)} (h : ReadsE w b off es) (he : e < es.length) (hk : k < 2) : w.cell? ⟨b, off + e * 2 + k, none⟩ = some (.int .i64 (endH es e k)) := by
  rcases (by omega : k = 0 ∨ k = 1) with rfl | rfl
  · exact (h e he).1
  · exact (h e he).2
theorem endH_range {s : Int} {es : List (Int × Int)} (h : IsG s es) {e k : Nat} (he : e < es.length) : 0 ≤ endH es e k ∧ endH es e k < s := by
  have h1 := h.1.2 e he
  unfold endH
  split
  · exact ⟨h1.1, h1.2.1⟩
  · exact ⟨h1.2.2.1, h1.2.2.2.1⟩
theorem endH_on (es : List (Int × Int)) (e k : Nat) : onE es (endH es e k) e = true := by
  unfold endH onE
  split <;> simp
theorem OwnB.far' {w : World} {g cap : Nat} {xs : List Bool} (h : OwnB w g cap xs) {a : Addr} (ha : g ≠ a.block) (v : Value) : OwnB (w.setCell a v) g cap xs := h.keep (heap_setCell_other w a g v ha)
theorem OwnB.grown' {w w' : World} {g g1 cap : Nat} {xs : List Bool} (h : OwnB w g cap xs) (hg : w.grownBy w' (some g1)) (hne : g ≠ g1) : OwnB w' g cap xs := h.keep (hg.block g h.lt (fun e => hne (Option.some.inj e)))

/-- What the search keeps while the place i of the list is looked at: k of its ends, and j edges of the next end v. -/
def DoneI (es : List (Int × Int)) (cs : List Int) (d : Int) (e : Nat) (ms : List Bool) (qs : List Int) (i : Nat) : Prop := ∀ p, p < i → seenV es cs d e ms (eA es (eI qs p).toNat) ∧ seenV es cs d e ms (eB es (eI qs p).toNat)
def DoneJ (_es : List (Int × Int)) (cs : List Int) (d : Int) (e : Nat) (ms : List Bool) (L : List Nat) (j : Nat) : Prop := ∀ q (hq : q < L.length), q < j → (eI cs L[q] = eI cs e ∨ eI cs L[q] = d - eI cs e) → eL ms L[q] = true
theorem DoneI.grow {es : List (Int × Int)} {cs : List Int} {d : Int} {e : Nat} {ms ms' : List Bool} {qs qs' : List Int} {i : Nat} (h : DoneI es cs d e ms qs i) (hm : ∀ y, eL ms y = true → eL ms' y = true) (hq : ∀ p, p < i → eI qs' p = eI qs p) : DoneI es cs d e ms' qs' i := fun p hp => by
  rw [hq p hp]
  exact ⟨(h p hp).1.mono hm, (h p hp).2.mono hm⟩
theorem DoneJ.grow {es : List (Int × Int)} {cs : List Int} {d : Int} {e : Nat} {ms ms' : List Bool} {L : List Nat} {j : Nat} (h : DoneJ es cs d e ms L j) (hm : ∀ y, eL ms y = true → eL ms' y = true) : DoneJ es cs d e ms' L j := fun q hq hj hc => hm _ (h q hq hj hc)
theorem DoneJ.next {es : List (Int × Int)} {cs : List Int} {d : Int} {e : Nat} {ms : List Bool} {L : List Nat} {j : Nat} (h : DoneJ es cs d e ms L j) (hj : j < L.length) (hx : (eI cs L[j] = eI cs e ∨ eI cs L[j] = d - eI cs e) → eL ms L[j] = true) : DoneJ es cs d e ms L (j + 1) := fun q hq hqj hc => by
  rcases Nat.lt_or_ge q j with h1 | h1
  · exact h q hq h1 hc
  · obtain rfl : q = j := by omega
    exact hx hc
theorem DoneJ.all {es : List (Int × Int)} {cs : List Int} {d : Int} {e : Nat} {ms : List Bool} {L : List Nat} {v : Int} (hL : L = onL es v) (h : DoneJ es cs d e ms L L.length) : seenV es cs d e ms v := fun y hy ho hc => by
  have hm : y ∈ L := by rw [hL]; exact onL_mem.2 ⟨hy, ho⟩
  obtain ⟨q, hq, e1⟩ := List.getElem_of_mem hm
  have := h q hq hq (by rw [e1]; exact hc)
  rwa [e1] at this

set_option maxRecDepth 100000 in
set_option maxHeartbeats 16000000 in
theorem sChain_any (s : Int) (b off n c cb co m f0 E : Nat) (B : Int) (es : List (Int × Int)) (cs : List Int) (w : World) (hn : es.length = n) (hr : ReadsE w b off es) (hl : cs.length = m) (hrc : ReadsI w cb co cs) (hnm : m = n) (G0 : ChG s es cs (eI cs E + B) E) :
    Calls Try.prog 16 #[.agg #[.int .i64 s, .slice (some ⟨b, off, none⟩) n c], .slice (some ⟨cb, co, none⟩) m f0, .int .i64 E, .int .i64 B] w fun e' w' => ∃ g, e' = .returned (.slice (some ⟨g, 0, none⟩) n n) ∧ w.heap.size ≤ g ∧ OwnB w' g n (chM es cs (eI cs E + B) E) ∧ Below w.heap.size w w' := by
  subst hnm
  have hn30 : m ≤ 30 := by have := isG_len G0.g; omega
  have Hn := hid hn
  have Hr := hid hr
  have Hl := hid hl
  have Hrc := hid hrc
  have G := hid G0
  have hEm : E < m := by have := G0.he; omega
  have hEm' : (E : Int) < (m : Int) := by omega
  have hcb : cb < w.heap.size := hrc.lt (by omega)
  have hbb : b < w.heap.size := reads_lt hr (by have := G0.he; omega)
  obtain ⟨D, hD⟩ : ∃ D, D = eI cs E + B := ⟨_, rfl⟩
  obtain ⟨A, hA⟩ : ∃ A, eI cs E = A := ⟨_, rfl⟩
  have HAE := hid hA
  have HDB := hid (show D - A = B by omega)
  rw [← hD] at G ⊢
  obtain ⟨i0, hi, hz0, hz1, hz2⟩ := info_parts infoBh
  obtain ⟨j0, hj, hy0, hy1, hy2⟩ := info_parts infoInt
  have Hi := hid hi
  have Hj := hid hj
  clear hn hr hl hrc G0 hD hA hi hj
  go_enter Try.func16, Try.ntmps16
  have HX0 := hid (Box.new w s (some ⟨b, off, none⟩) m c 31)
  have HB0 := hid (on_alloc w (.cells #[.int .i64 s, .slice (some ⟨b, off, none⟩) m c] 31))
  obtain ⟨w2, hw2⟩ : ∃ w2, w2 = w.alloc (.cells #[.int .i64 s, .slice (some ⟨b, off, none⟩) m c] 31) := ⟨_, rfl⟩
  rw [← hw2] at HX0 HB0
  have hz2' := HX0.out.lt
  have hs2 := HB0.out.size
  go_wp2_with (at_make; rw [← hw2]; clear hw2; refine wpList_make_full _ rfl _ _ 41 rfl w2.heap.size 4 i0 (.bool false) 1 Try.underlying41 Hi.out hz0 hz1 _ _ _ _ m rfl rfl rfl rfl (by rw [hz2]; omega) (by unfold maxLen; omega) (Nat.le_refl _) ?_; intro w3 hown hgrow; have Ho := hid (OwnB.made hown); have Hb3 := hid ((Below.refl w2.heap.size w2).grown hgrow (Nat.le_refl _) (fun k e => by cases e)); have hgM := Ho.out.lt; have hcM := Ho.out.cell (i := E) (by simpa using hEm); have hfM := Ho.out.free E; clear hown hgrow)
  go_loopw [10, 11] (fun u v wr => ∃ (i l cap gq : Nat) (ms : List Bool) (qs : List Int), i ≤ l ∧ u = .slice (some ⟨gq, 0, none⟩) l cap ∧ v = .int .i64 i ∧ Hid (ChI es cs D E ms qs ∧ qs.length = l ∧ OwnB wr w2.heap.size m ms ∧ OwnI wr gq cap qs ∧ w2.heap.size < gq) ∧ Hid (DoneI es cs D E ms qs i) ∧ Hid (Below w2.heap.size w2 wr)) (fun _ v _ => m - (intOf v).toNat)
  case atStart =>
    refine ⟨0, 1, 1, _, (List.replicate m false).set E true, [(E : Int)], Nat.zero_le _, rfl, rfl, hid ⟨by have h := ChI.start G.out; rw [Hn.out] at h; exact h, rfl, (OwnB.set Ho.out (by simpa using hEm) true).on (on_alloc _ _), own_one _ w3.heap.size E (by simp [World.setCell]), by omega⟩, hid (fun p hp => by omega), hid ((Hb3.out.setCell (p := ⟨w2.heap.size, E, none⟩) (Nat.le_refl _) _).alloc (by simp [World.setCell]; omega) _)⟩
  case round =>
    obtain ⟨i, l, cap, gq, ms, qs, hi, rfl, rfl, hC, hD, hB⟩ := hrel
    clear Ho Hb3 hcM hfM
    have hlm : l ≤ m := by have h1 := hC.out.1.le; have := hC.out.2.1; have := Hn.out; omega
    by_cases hlt : i < l
    · have hat := hC.out.1.at (i := i) (by have := hC.out.2.1; omega)
      obtain ⟨X, hX⟩ : ∃ X : Nat, eI qs i = X := ⟨_, (Int.toNat_of_nonneg hat.1).symm⟩
      rw [hX, Int.toNat_natCast] at hat
      have hXm : X < m := by have := hat.2.1; have := Hn.out; omega
      have HXC := hid hat.2.2.2
      have HX := hid hX
      have hgqz := hC.out.2.2.2.1.lt
      clear hat hX
      go_wp2
      go_loopw [10, 12] (fun u v wr => ∃ (kk l2 cap2 g2 : Nat) (ms2 : List Bool) (qs2 : List Int), kk ≤ 2 ∧ i < l2 ∧ u = .slice (some ⟨g2, 0, none⟩) l2 cap2 ∧ v = .int .i64 kk ∧ Hid (ChI es cs D E ms2 qs2 ∧ qs2.length = l2 ∧ OwnB wr w2.heap.size m ms2 ∧ OwnI wr g2 cap2 qs2 ∧ w2.heap.size < g2) ∧ Hid (eI qs2 i = X) ∧ Hid (DoneI es cs D E ms2 qs2 i ∧ ∀ k', k' < kk → seenV es cs D E ms2 (endH es X k')) ∧ Hid (Below w2.heap.size w2 wr)) (fun _ v _ => 2 - (intOf v).toNat)
      case atStart => exact ⟨0, l, cap, gq, ms, qs, by omega, hlt, rfl, rfl, hC, HX, hid ⟨hD.out, fun k' hk' => by omega⟩, hB⟩
      case round =>
        obtain ⟨kk, l2, cap2, g2, ms2, qs2, hkk, hil2, rfl, rfl, hC2, hX2, hD2, hB2⟩ := hrel
        have hlm2 : l2 ≤ m := by have h1 := hC2.out.1.le; have := hC2.out.2.1; have := Hn.out; omega
        have hg2z := hC2.out.2.2.2.1.lt
        have HXr := hid (HX0.out.on hB2.out)
        have hxr := HXr.out.1
        have hyr := HXr.out.2
        have hzr := HXr.out.lt
        by_cases hltk : kk < 2
        · have HE := hid (endH_range (k := kk) G.out.g (e := X) (by have := Hn.out; omega))
          obtain ⟨V, hV⟩ : ∃ V : Nat, endH es X kk = V := ⟨_, (Int.toNat_of_nonneg HE.out.1).symm⟩
          have HBw := hid (bfrom HB0.out hB2.out)
          have hce := reads_endH (Hr.out.on HBw.out) (by have := Hn.out; omega : X < es.length) hltk
          rw [hV] at hce
          have hbr : b < wr.heap.size := by have := HBw.out.size; omega
          have hcq := hC2.out.2.2.2.1.reads i (by have := hC2.out.2.1; omega)
          rw [Nat.zero_add, hX2.out] at hcq
          have HV := hid hV
          have hkn : (kk : Int) < 2 := by omega
          have hXm' : (X : Int) < (m : Int) := by omega
          clear hV
          obtain ⟨wo, rfl⟩ : ∃ wo : World, wo = wr := ⟨_, rfl⟩
          go_wp2
          go_still_tail 11, (by kernel_rfl)
          go_wp2_with fail
          refine (sAt_any _ _ b off m c es _ Hn.out hn30 (Hr.out.on (bfrom HB0.out hB2.out.drew))).mono ?_
          rintro e' w4 ⟨q4, cap4, rfl, hf4, hb4⟩
          obtain ⟨L, hL⟩ : ∃ L, L = onL es V := ⟨_, rfl⟩
          have HLm := hid (show ∀ e, e ∈ L → e < es.length ∧ onE es V e = true from fun e he => by rw [hL] at he; exact onL_mem.1 he)
          have hat : atF es V = L.map fun (i : Nat) => (i : Int) := by rw [hL]; exact onL_at es V
          have hL3 : L.length = 3 := by
            obtain ⟨x, y, z, h1, _⟩ := onL_three G.out.g (v := (V : Int)) (by have := HE.out; rw [HV.out] at this; exact this)
            rw [hL, h1]; rfl
          have hmlen : (atF es V).length = 3 := by rw [hat, List.length_map, hL3]
          rw [hmlen] at hf4
          rw [hmlen]
          have HL3 := hid hL3
          have HL := hid hL
          have HAT := hid hat
          have HF4 := hid hf4
          have HB4 := hid (bfrom (w := wo) (Below.refl _ _).drew hb4)
          have HI4 := hid (show ChI es cs D E ms2 qs2 ∧ qs2.length = l2 ∧ OwnB w4 w2.heap.size m ms2 ∧ OwnI w4 g2 cap2 qs2 ∧ w2.heap.size < g2 from ⟨hC2.out.1, hC2.out.2.1, hC2.out.2.2.1.on HB4.out, hC2.out.2.2.2.1.on HB4.out, hC2.out.2.2.2.2⟩)
          have HBA := hid (show Below w2.heap.size w2 w4 from hB2.out.trans (HB4.out.mono (by have := hB2.out.size; omega)))
          have HQ4 := hid (show ∀ b4 o4, q4 = some ⟨b4, o4, none⟩ → b4 ≠ g2 ∧ w2.heap.size < b4 from fun b4 o4 e => by
            rcases HF4.out.form with ⟨h1, _⟩ | ⟨g, h1, h2, _⟩
            · rw [h1] at e; cases e
            · rw [h1] at e
              have h3 : wo.heap.size ≤ g := h2
              cases e
              have := hC2.out.2.2.2.2
              omega)
          clear hf4 hb4 hL hat hL3 hmlen
          go_wp2
          go_loopw [10, 14] (fun u v wr => ∃ (j l3 cap3 g3 : Nat) (ms3 : List Bool) (qs3 : List Int), j ≤ 3 ∧ i < l3 ∧ u = .slice (some ⟨g3, 0, none⟩) l3 cap3 ∧ v = .int .i64 j ∧ Hid (ChI es cs D E ms3 qs3 ∧ qs3.length = l3 ∧ OwnB wr w2.heap.size m ms3 ∧ OwnI wr g3 cap3 qs3 ∧ w2.heap.size < g3) ∧ Hid (eI qs3 i = X) ∧ Hid (DoneI es cs D E ms3 qs3 i ∧ (∀ k', k' < kk → seenV es cs D E ms3 (endH es X k')) ∧ DoneJ es cs D E ms3 L j) ∧ Hid (SeesI wr q4 (atF es V) ∧ ∀ b4 o4, q4 = some ⟨b4, o4, none⟩ → b4 ≠ g3 ∧ w2.heap.size < b4) ∧ Hid (Below w2.heap.size w2 wr)) (fun _ v _ => 3 - (intOf v).toNat)
          case atStart => exact ⟨0, l2, cap2, g2, ms2, qs2, by omega, hil2, rfl, rfl, HI4, hX2, hid ⟨hD2.out.1, hD2.out.2, fun q hq hqj => by omega⟩, hid ⟨HF4.out.sees, HQ4.out⟩, HBA⟩
          case round =>
            obtain ⟨j, l3, cap3, g3, ms3, qs3, hj, hil3, rfl, rfl, hI, hX3, hD3, hS, hBi⟩ := hrel
            clear HI4 HBA HQ4
            have hlm3 : l3 ≤ m := by have h1 := hI.out.1.le; have := hI.out.2.1; have := Hn.out; omega
            by_cases hltj : j < 3
            · have hjL : j < L.length := by have := HL3.out; omega
              obtain ⟨F, hF⟩ : ∃ F, F = L[j] := ⟨_, rfl⟩
              obtain ⟨hFE, hFO⟩ := HLm.out F (by rw [hF]; exact List.getElem_mem hjL)
              have hFm : F < m := by have := Hn.out; omega
              obtain ⟨b4, o4, rfl, hrd4⟩ : ∃ b4 o4, q4 = some ⟨b4, o4, none⟩ ∧ ReadsI wr b4 o4 (atF es V) := by
                rcases hS.out.1 with h | h
                · rw [HAT.out] at h; have := congrArg List.length h; rw [List.length_map, HL3.out] at this; exact absurd this (by decide)
                · exact h
              have hc4 := hrd4 j (by rw [HAT.out, List.length_map]; exact hjL)
              have hae : eI (atF es V) j = (F : Int) := by rw [HAT.out, hF, eI_lt (by simpa using hjL)]; simp
              rw [hae] at hc4
              have HR4 := hid hrd4
              obtain ⟨hb4g, hb4o⟩ := hS.out.2 b4 o4 rfl
              have hb4z := World.block_lt_of_cell? wr _ hc4
              have HFL := hid hF
              have HFO := hid hFO
              have hjn : (j : Int) < 3 := by omega
              have hFm' : (F : Int) < (m : Int) := by omega
              have HBx := hid (bfrom HB0.out hBi.out)
              have hcm := hI.out.2.2.1.cell (i := F) (by rw [hI.out.1.len]; exact hFE)
              have hfm := hI.out.2.2.1.free F
              have hgM' := hI.out.2.2.1.lt
              have hg3 := hI.out.2.2.2.1.lt
              have hg3O := hI.out.2.2.2.2
              have hcF := Hrc.out.on HBx.out F (by have := Hl.out; omega)
              have hcE := Hrc.out.on HBx.out E (by have := Hl.out; omega)
              have hcbr : cb < wr.heap.size := by have := HBx.out.size; omega
              rw [HAE.out] at hcE
              obtain ⟨y, hy⟩ : ∃ y, eL ms3 F = y := ⟨_, rfl⟩
              obtain ⟨z, hz⟩ : ∃ z, eI cs F = z := ⟨_, rfl⟩
              rw [hy] at hcm
              rw [hz] at hcF
              have HY := hid hy
              have HZ := hid hz
              have hn1 := DoneJ.next (es := es) (cs := cs) (d := D) (e := E) (ms := ms3) hD3.out.2.2 hjL
              rw [← hF] at hn1
              have HN1 := hid hn1
              clear hF hFO hrd4 hae hy hz hn1
              obtain ⟨wi, rfl⟩ : ∃ wi : World, wi = wr := ⟨_, rfl⟩
              have HKeep := hid (show (¬ (y = false ∧ (z = A ∨ z = B))) → DoneJ es cs D E ms3 L (j + 1) from fun h => HN1.out (fun hc => by
                rw [HZ.out, HAE.out, HDB.out] at hc
                rw [HY.out]
                cases y
                · exact absurd ⟨rfl, hc⟩ h
                · rfl))
              have HPut := hid (show y = false → (z = A ∨ z = B) → ChI es cs D E (ms3.set F true) (qs3 ++ [(F : Int)]) from fun hy hc => hI.out.1.put hFE (by rw [HY.out, hy]) (HXC.out.next (by have := Hn.out; omega) hFE (endH_on es X kk) (by rw [HV.out]; exact HFO.out) (by rw [HZ.out, HAE.out, HDB.out]; exact hc)))
              cases y
              · by_cases hz : z = A ∨ z = B
                · have HP := hid (HPut.out rfl hz)
                  have HRow := fun (q : Nat) => hid (((OwnI.drewN (n := q) hI.out.2.2.2.1).far (a := ⟨w2.heap.size, F, none⟩) (by show g3 ≠ w2.heap.size; omega) (.bool true)).alloc (.cells #[.int .i64 F] 2))
                  have HSz := hid (show ∀ q : Nat, ((wi.drewN q).setCell ⟨w2.heap.size, F, none⟩ (.bool true)).heap.size = wi.heap.size from fun q => by simp [World.setCell])
                  have HNew := hid (show ∀ q : Nat, (((wi.drewN q).setCell ⟨w2.heap.size, F, none⟩ (.bool true)).alloc (.cells #[.int .i64 F] 2)).heap[wi.heap.size]? = some (.cells #[.int .i64 F] 2 (0, 0)) from fun q => by rw [← HSz.out q]; exact heap_alloc_new _ _)
                  rcases (by by_cases e1 : z = A; exact .inl e1; exact .inr ⟨e1, hz.resolve_left e1⟩ : z = A ∨ (z ≠ A ∧ z = B)) with rfl | ⟨e1, rfl⟩
                  · have t1 : (z == z) = true := by simp
                    go_wp2
                    go_quiet (fail)
                    go_wp2_with (at_builtin; go_must (refine wpList_append_lies _ rfl (.tmp 81) (.tmp 83) 25 rfl (w2.heap.size + 1) 2 j0 (.int .i64 0) 1 8 Try.underlying25 Hj.out hy0 hy1 hy2 rfl (by decide) (.slice (some ⟨g3, 0, none⟩) l3 cap3) l3 _ rfl (OwnI.row (HRow _).out hI.out.2.1 (by omega)) ⟨wi.heap.size, 0, none⟩ 1 1 [.int .i64 F] rfl rfl (World.news_of_block (cs := #[.int .i64 F]) (t := 2) (fr := (0, 0)) (HNew.out _)) (by simp [Value.oneCell']) (by decide) (by unfold maxLen; omega) (by omega) (by rw [World.size_alloc, HSz.out]; omega) (wi.heap.size + 1) (by rw [World.size_alloc, HSz.out]) ?_); intro g6 cap6 w6 hown6 hgrow6 hlie6 hg6; have Hown := hid hown6; have Hgrow := hid hgrow6; have Hlie := hid hlie6; clear hown6 hgrow6 hlie6)
                    have HO6 := hid (OwnB.grown' (g1 := g3) ((OwnB.set (OwnB.keep (w' := World.drewN wi nq) hI.out.2.2.1 rfl) (by rw [hI.out.1.len]; exact hFE) true).on (on_alloc _ (.cells #[.int .i64 F] 2))) Hgrow.out (by omega))
                    have HR6 := hid (ReadsI.grown (g1 := g3) (((show ReadsI (wi.drewN nq) b4 o4 (atF es V) from HR4.out).far (a := ⟨w2.heap.size, F, none⟩) (by show b4 ≠ w2.heap.size; omega) (.bool true)).on (on_alloc _ (.cells #[.int .i64 F] 2))) (by rw [World.size_alloc, HSz.out]; omega) Hgrow.out hb4g)
                    have HB6 := hid (below_grown_row (g1 := g3) (((bdn.mpr hBi.out : Below w2.heap.size w2 (wi.drewN nq)).setCell (p := ⟨w2.heap.size, F, none⟩) (Nat.le_refl _) (.bool true)).alloc (by rw [HSz.out]; omega) (.cells #[.int .i64 F] 2)) Hgrow.out (by rw [World.size_alloc, HSz.out]; omega) (by omega))
                    have hg6 : g6 = g3 ∨ g6 = wi.heap.size + 1 := by
                      rcases Hlie.out with h | h
                      · exact .inl (Option.some.inj h).symm
                      · exact .inr h
                    have HMono := hid (set_mono (ms := ms3) (f := F) (by rw [hI.out.1.len]; exact hFE))
                    go_roundw
                    case rel =>
                      refine ⟨j + 1, l3 + 1, cap6, g6, ms3.set F true, qs3 ++ [(F : Int)], by omega, by omega, rfl, by go_num, hid ⟨HP.out, by rw [List.length_append, hI.out.2.1]; rfl, HO6.out, ?_, by omega⟩, hid (by rw [eI_append (by have := hI.out.2.1; omega)]; exact hX3.out), hid ⟨hD3.out.1.grow HMono.out (fun p hp => eI_append (by have := hI.out.2.1; omega)), fun k' hk' => (hD3.out.2.1 k' hk').mono HMono.out, ?_⟩, hid ⟨.inr ⟨b4, o4, rfl, HR6.out⟩, fun b' o' h => by cases h; omega⟩, HB6⟩
                      · exact (OwnI.of_row (n := l3 + 1) (by rw [intVals_append]; exact Hown.out) (by rw [List.length_append, hI.out.2.1]; rfl)).1
                      · refine (hD3.out.2.2.grow HMono.out).next hjL (fun _ => ?_)
                        rw [← HFL.out, eL_set (by rw [hI.out.1.len]; exact hFE), if_pos rfl]
                    case measure => simp [intOf]; omega
                  · have t1 : (z == A) = false := by simpa using e1
                    have t2 : (z == z) = true := by simp
                    clear e1
                    go_wp2
                    go_quiet (fail)
                    go_wp2_with (at_builtin; go_must (refine wpList_append_lies _ rfl (.tmp 81) (.tmp 83) 25 rfl (w2.heap.size + 1) 2 j0 (.int .i64 0) 1 8 Try.underlying25 Hj.out hy0 hy1 hy2 rfl (by decide) (.slice (some ⟨g3, 0, none⟩) l3 cap3) l3 _ rfl (OwnI.row (HRow _).out hI.out.2.1 (by omega)) ⟨wi.heap.size, 0, none⟩ 1 1 [.int .i64 F] rfl rfl (World.news_of_block (cs := #[.int .i64 F]) (t := 2) (fr := (0, 0)) (HNew.out _)) (by simp [Value.oneCell']) (by decide) (by unfold maxLen; omega) (by omega) (by rw [World.size_alloc, HSz.out]; omega) (wi.heap.size + 1) (by rw [World.size_alloc, HSz.out]) ?_); intro g6 cap6 w6 hown6 hgrow6 hlie6 hg6; have Hown := hid hown6; have Hgrow := hid hgrow6; have Hlie := hid hlie6; clear hown6 hgrow6 hlie6)
                    have HO6 := hid (OwnB.grown' (g1 := g3) ((OwnB.set (OwnB.keep (w' := World.drewN wi nq) hI.out.2.2.1 rfl) (by rw [hI.out.1.len]; exact hFE) true).on (on_alloc _ (.cells #[.int .i64 F] 2))) Hgrow.out (by omega))
                    have HR6 := hid (ReadsI.grown (g1 := g3) (((show ReadsI (wi.drewN nq) b4 o4 (atF es V) from HR4.out).far (a := ⟨w2.heap.size, F, none⟩) (by show b4 ≠ w2.heap.size; omega) (.bool true)).on (on_alloc _ (.cells #[.int .i64 F] 2))) (by rw [World.size_alloc, HSz.out]; omega) Hgrow.out hb4g)
                    have HB6 := hid (below_grown_row (g1 := g3) (((bdn.mpr hBi.out : Below w2.heap.size w2 (wi.drewN nq)).setCell (p := ⟨w2.heap.size, F, none⟩) (Nat.le_refl _) (.bool true)).alloc (by rw [HSz.out]; omega) (.cells #[.int .i64 F] 2)) Hgrow.out (by rw [World.size_alloc, HSz.out]; omega) (by omega))
                    have hg6 : g6 = g3 ∨ g6 = wi.heap.size + 1 := by
                      rcases Hlie.out with h | h
                      · exact .inl (Option.some.inj h).symm
                      · exact .inr h
                    have HMono := hid (set_mono (ms := ms3) (f := F) (by rw [hI.out.1.len]; exact hFE))
                    go_roundw
                    case rel =>
                      refine ⟨j + 1, l3 + 1, cap6, g6, ms3.set F true, qs3 ++ [(F : Int)], by omega, by omega, rfl, by go_num, hid ⟨HP.out, by rw [List.length_append, hI.out.2.1]; rfl, HO6.out, ?_, by omega⟩, hid (by rw [eI_append (by have := hI.out.2.1; omega)]; exact hX3.out), hid ⟨hD3.out.1.grow HMono.out (fun p hp => eI_append (by have := hI.out.2.1; omega)), fun k' hk' => (hD3.out.2.1 k' hk').mono HMono.out, ?_⟩, hid ⟨.inr ⟨b4, o4, rfl, HR6.out⟩, fun b' o' h => by cases h; omega⟩, HB6⟩
                      · exact (OwnI.of_row (n := l3 + 1) (by rw [intVals_append]; exact Hown.out) (by rw [List.length_append, hI.out.2.1]; rfl)).1
                      · refine (hD3.out.2.2.grow HMono.out).next hjL (fun _ => ?_)
                        rw [← HFL.out, eL_set (by rw [hI.out.1.len]; exact hFE), if_pos rfl]
                    case measure => simp [intOf]; omega
                · have t1 : (z == A) = false := by have : z ≠ A := fun h => hz (.inl h); simpa using this
                  have t2 : (z == B) = false := by have : z ≠ B := fun h => hz (.inr h); simpa using this
                  have HK := hid (HKeep.out (fun h => hz h.2))
                  clear hz
                  go_wp2
                  go_quiet (fail)
                  go_wp2
                  go_roundw
                  case rel => exact ⟨j + 1, l3, cap3, g3, ms3, qs3, by omega, hil3, rfl, by go_num, hid ⟨hI.out.1, hI.out.2.1, hI.out.2.2.1.keep rfl, hI.out.2.2.2.1.keep rfl, hg3O⟩, hX3, hid ⟨hD3.out.1, hD3.out.2.1, HK.out⟩, hid ⟨.inr ⟨b4, o4, rfl, HR4.out.keep rfl⟩, fun b' o' h => by cases h; exact ⟨hb4g, hb4o⟩⟩, hid (bdn.mpr hBi.out)⟩
                  case measure => simp [intOf]; omega
              · have HK := hid (HKeep.out (fun h => by cases h.1))
                go_wp2
                go_quiet (fail)
                go_wp2
                go_roundw
                case rel => exact ⟨j + 1, l3, cap3, g3, ms3, qs3, by omega, hil3, rfl, by go_num, hid ⟨hI.out.1, hI.out.2.1, hI.out.2.2.1.keep rfl, hI.out.2.2.2.1.keep rfl, hg3O⟩, hX3, hid ⟨hD3.out.1, hD3.out.2.1, HK.out⟩, hid ⟨.inr ⟨b4, o4, rfl, HR4.out.keep rfl⟩, fun b' o' h => by cases h; exact ⟨hb4g, hb4o⟩⟩, hid (bdn.mpr hBi.out)⟩
                case measure => simp [intOf]; omega
            · obtain rfl : j = 3 := by omega
              go_wp2
              go_roundw
              case rel => exact ⟨kk + 1, l3, cap3, g3, ms3, qs3, by omega, hil3, rfl, by go_num, hI, hX3, hid ⟨hD3.out.1, fun k' hk' => by
                rcases Nat.lt_or_ge k' kk with h | h
                · exact hD3.out.2.1 k' h
                · have ek : k' = kk := by omega
                  rw [ek, HV.out]
                  exact DoneJ.all HL.out (by rw [HL3.out]; exact hD3.out.2.2)⟩, hBi⟩
              case measure => simp [intOf]; omega
        · obtain rfl : kk = 2 := by omega
          go_wp2
          go_roundw
          case rel => exact ⟨i + 1, l2, cap2, g2, ms2, qs2, by omega, rfl, by go_num, hC2, hid (fun p hp => by
            rcases Nat.lt_or_ge p i with h | h
            · exact hD2.out.1 p h
            · have ep : p = i := by omega
              rw [ep, hX2.out, Int.toNat_natCast]
              exact ⟨hD2.out.2 0 (by omega), hD2.out.2 1 (by omega)⟩), hB2⟩
          case measure => simp [intOf]; omega
    · have hil : i = l := by omega
      have HEnd := hid (hC.out.1.done G.out (fun p hp => hD.out p (by have := hC.out.2.1; omega)))
      go_wp2
      go_ret
      exact ⟨w2.heap.size, rfl, hs2, by rw [← HEnd.out]; exact hC.out.2.2.1, bfrom HB0.out hB.out⟩

end Go.Proofs.Ytjkemganbfldpaa
