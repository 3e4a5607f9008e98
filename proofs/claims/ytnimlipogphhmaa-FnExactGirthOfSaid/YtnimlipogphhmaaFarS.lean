/- Distances in the model: l01Far. -/
import Derived.Test.YtnimlipogphhmaaFar
import Derived.Test.YtnimlipogphhmaaOwnMore
import Derived.Test.YtnimlipogphhmaaSpecAt
import Derived.Test.YtnimlipogphhmaaSpecD
import Derived.Deep.AppendLies
import Derived.Deep.DeepMust
import Derived.StillTailTactics
import Derived.BigQuiet
namespace Go.Proofs.Ytnimlipogphhmaa
open Go.RowKit

theorem far_fill_step {xs : List Int} {i N : Nat} (hl : xs.length = N) (hi : i < N) (h : ∀ j, j < i → eI xs j = -1) : ∀ j, j < i + 1 → eI (xs.set i (-1)) j = -1 := fun j hj => by
  rw [eI_set' (by omega)]
  split
  · rfl
  · exact h j (by omega)
theorem far_fill_all {xs : List Int} {N : Nat} (hl : xs.length = N) (h : ∀ j, j < N → eI xs j = -1) : xs = List.replicate N (-1) := by
  refine List.ext_getElem (by simp [hl]) fun i h1 h2 => ?_
  have := h i (by omega)
  rw [eI_lt h1] at this
  simpa using this
theorem take_nat {L : List Nat} {k : Nat} (hk : k < L.length) : L.take (k + 1) = L.take k ++ [L[k]] := by
  rw [List.take_add_one, List.getElem?_eq_getElem hk]
  rfl

set_option maxRecDepth 100000 in
set_option maxHeartbeats 16000000 in
theorem sFar_any (N : Nat) (a ex : Int) (b off n c : Nat) (es : List (Int × Int)) (w : World) (hn : es.length = n) (hr : ReadsE w b off es) (g : IsG N es) (ha : 0 ≤ a ∧ a < N) (keep : Nat → Bool) (hk : ∀ e, keep e = ((e : Int) != ex)) :
    Calls Try.prog 57 #[.agg #[.int .i64 N, .slice (some ⟨b, off, none⟩) n c], .int .i64 a, .int .i64 ex] w fun e w' => ∃ q cap, e = .returned (.slice q N cap) ∧ FreshI w.heap.size w' q N cap (farF N es keep a) ∧ Below w.heap.size w w' := by
  have hn30 : n ≤ 30 := by have := isG_len g; omega
  have hN4 : N ≤ 20 := by have := g.1.1.2.1; omega
  have hN1 : 1 ≤ N := by have := g.1.1.1; omega
  obtain ⟨E, hE⟩ : ∃ E : Nat, a = E := ⟨_, (Int.toNat_of_nonneg ha.1).symm⟩
  subst hE
  have hEN : E < N := by omega
  have hEN' : (E : Int) < (N : Int) := by omega
  have Hn := hid hn
  have Hr := hid hr
  have G := hid g
  have EI := hid (endsIn_of g)
  have HA := hid ha
  have HK := hid hk
  obtain ⟨i0, hi, hz0, hz1, hz2⟩ := info_parts infoInt
  have Hi := hid hi
  clear hn hr g ha hk hi
  go_enter Try.func57, Try.ntmps57
  have HX0 := hid (Box.new w N (some ⟨b, off, none⟩) n c 30)
  have HB0 := hid (on_alloc w (.cells #[.int .i64 N, .slice (some ⟨b, off, none⟩) n c] 30))
  obtain ⟨w2, hw2⟩ : ∃ w2, w2 = w.alloc (.cells #[.int .i64 N, .slice (some ⟨b, off, none⟩) n c] 30) := ⟨_, rfl⟩
  rw [← hw2] at HX0 HB0
  have hz2' := HX0.out.lt
  go_wp2_with (at_make; rw [← hw2]; clear hw2; refine wpList_make_full _ rfl _ _ 35 rfl w2.heap.size 2 i0 (.int .i64 0) 1 Try.underlying35 Hi.out hz0 hz1 _ _ _ _ N rfl rfl rfl rfl (by rw [hz2]; omega) (by unfold maxLen; omega) (Nat.le_refl _) ?_; intro w3 hown hgrow)
  have Ho := hid (OwnI.made hown)
  have Hb3 := hid ((Below.refl w2.heap.size w2).grown hgrow (Nat.le_refl _) (fun k e => by cases e))
  clear hown hgrow
  go_loopw [8] (fun u wr => ∃ (i : Nat) (xs : List Int), i ≤ N ∧ u = .int .i64 i ∧ Hid (xs.length = N ∧ (∀ j, j < i → eI xs j = -1) ∧ OwnI wr w2.heap.size N xs) ∧ Hid (Below w2.heap.size w2 wr)) (fun u _ => N - (intOf u).toNat)
  case atStart => exact ⟨0, _, Nat.zero_le _, rfl, hid ⟨List.length_replicate, fun j hj => by omega, Ho.out⟩, Hb3⟩
  case round =>
    obtain ⟨i, xs, hi, rfl, hC, hB⟩ := hrel
    clear Ho Hb3
    have HXr := hid (HX0.out.on hB.out)
    have hxr := HXr.out.1
    have hzr := HXr.out.lt
    have hgz := hC.out.2.2.lt
    by_cases hlt : i < N
    · have hcm := hC.out.2.2.reads i (by have := hC.out.1; omega)
      rw [Nat.zero_add] at hcm
      have hfm := hC.out.2.2.free i
      go_wp2
      go_roundw
      case rel => exact ⟨i + 1, xs.set i (-1), by omega, by go_num, hid ⟨by rw [List.length_set]; exact hC.out.1, far_fill_step hC.out.1 hlt hC.out.2.1, OwnI.set hC.out.2.2 (by have := hC.out.1; omega) _⟩, hid (hB.out.setCell (p := ⟨w2.heap.size, i, none⟩) (Nat.le_refl _) _)⟩
      case measure => simp [intOf]; omega
    · obtain ⟨wk, rfl⟩ : ∃ wk : World, wk = wr := ⟨_, rfl⟩
      have HOk := hid (show OwnI wk w2.heap.size N (List.replicate N (-1)) by rw [← far_fill_all hC.out.1 (fun j hj => hC.out.2.1 j (by omega))]; exact hC.out.2.2)
      have hca := HOk.out.reads E (by simpa using hEN)
      rw [Nat.zero_add] at hca
      have hfa := HOk.out.free E
      have HO1 := hid (show OwnI (wk.setCell ⟨w2.heap.size, E, none⟩ (.int .i64 0)) w2.heap.size N (farS N es keep E 0).1 from OwnI.set HOk.out (by simpa using hEN) 0)
      have HB1 := hid (show Below w2.heap.size w2 (wk.setCell ⟨w2.heap.size, E, none⟩ (.int .i64 0)) from hB.out.setCell (p := ⟨w2.heap.size, E, none⟩) (Nat.le_refl _) _)
      go_wp2
      go_loopw [9, 10] (fun u v wr => ∃ (i l cap gq : Nat), i ≤ l ∧ u = .slice (some ⟨gq, 0, none⟩) l cap ∧ v = .int .i64 i ∧ Hid ((farS N es keep E i).2.length = l ∧ OwnI wr w2.heap.size N (farS N es keep E i).1 ∧ OwnI wr gq cap (farS N es keep E i).2 ∧ w2.heap.size < gq) ∧ Hid (Below w2.heap.size w2 wr)) (fun _ v _ => N - (intOf v).toNat)
      case atStart =>
        refine ⟨0, 1, 1, _, Nat.zero_le _, rfl, rfl, hid ⟨rfl, HO1.out.alloc _, own_one _ _ _ (by simp [World.setCell]), ?_⟩, hid (HB1.out.alloc HB1.out.size _)⟩
        have := HO1.out.lt
        simpa [World.setCell] using hgz
      case round =>
        obtain ⟨i, l, cap, gq, hi, rfl, rfl, hC2, hB2⟩ := hrel
        have FI := hid (farS_inv (keep := keep) EI.out HA.out i)
        have hlN : l ≤ N := by have := FI.out.le; have := hC2.out.1; omega
        have HXr2 := hid (HX0.out.on hB2.out)
        have hxr := HXr2.out.1
        have hyr := HXr2.out.2
        have hzr := HXr2.out.lt
        have hgq := hC2.out.2.2.1.lt
        by_cases hlt : i < l
        · have hcv := hC2.out.2.2.1.reads i (by have := hC2.out.1; omega)
          rw [Nat.zero_add] at hcv
          have hmem := FI.out.mem _ (eI_mem (xs := (farS N es keep E i).2) (i := i) (by have := hC2.out.1; omega))
          obtain ⟨V, hV⟩ : ∃ V : Nat, eI (farS N es keep E i).2 i = V := ⟨_, (Int.toNat_of_nonneg hmem.1).symm⟩
          rw [hV] at hcv hmem
          have hVN : V < N := by omega
          have hVN' : (V : Int) < (N : Int) := by omega
          have HV := hid hV
          have HV1 := hid (show eI (farS N es keep E i).1 V ≠ -1 by have := hmem.2.2; simpa using this)
          have HBw := hid (bfrom HB0.out hB2.out)
          have hbb : b < w.heap.size := reads_lt Hr.out (by have := isG_len G.out; have := G.out.1.1.2.2.2; have := Hn.out; omega)
          have hbr : b < wr.heap.size := by have := HBw.out.size; omega
          clear hV hmem
          obtain ⟨wo, rfl⟩ : ∃ wo : World, wo = wr := ⟨_, rfl⟩
          go_wp2
          go_still_tail 5, (by kernel_rfl)
          go_wp2_with fail
          refine (sAt_any _ _ b off n c es _ Hn.out hn30 (Hr.out.on (bfrom HB0.out hB2.out.drew))).mono ?_
          rintro e' w4 ⟨q4, cap4, rfl, hf4, hb4⟩
          obtain ⟨L, hL⟩ : ∃ L, L = onL es V := ⟨_, rfl⟩
          have hLm : ∀ e, e ∈ L → e < es.length ∧ onE es V e = true := fun e he => by rw [hL] at he; exact onL_mem.1 he
          have HLm := hid hLm
          have hat : atF es V = L.map fun (i : Nat) => (i : Int) := by rw [hL]; exact onL_at es V
          have hLlen : L.length ≤ n := by rw [hL, ← Hn.out]; exact onL_len es V
          obtain ⟨m, hm⟩ : ∃ m, m = L.length := ⟨_, rfl⟩
          have hmlen : (atF es V).length = m := by rw [hat, List.length_map, hm]
          rw [hmlen] at hf4
          rw [hmlen]
          have HM := hid hm
          have HL := hid hL
          have HAT := hid hat
          have hmn : m ≤ 30 := by omega
          have HF4 := hid hf4
          have HB4 := hid (bfrom (w := wo) (Below.refl _ _).drew hb4)
          have HI4 := hid (show (farL es keep V (farS N es keep E i) (L.take 0)).2.length = l ∧ OwnI w4 w2.heap.size N (farL es keep V (farS N es keep E i) (L.take 0)).1 ∧ OwnI w4 gq cap (farL es keep V (farS N es keep E i) (L.take 0)).2 ∧ w2.heap.size < gq from ⟨hC2.out.1, hC2.out.2.1.on HB4.out, hC2.out.2.2.1.on HB4.out, hC2.out.2.2.2⟩)
          have HBA := hid (show Below w2.heap.size w2 w4 from hB2.out.trans (HB4.out.mono (by have := hB2.out.size; omega)))
          have HQ4 := hid (show ∀ b4 o4, q4 = some ⟨b4, o4, none⟩ → b4 ≠ gq ∧ w2.heap.size < b4 from fun b4 o4 e => by
            rcases HF4.out.form with ⟨h1, _⟩ | ⟨g, h1, h2, _⟩
            · rw [h1] at e; cases e
            · rw [h1] at e
              have h3 : wo.heap.size ≤ g := h2
              cases e
              have := hC2.out.2.2.2
              omega)
          clear hf4 hb4 hL hLm hat hLlen hm hmlen
          go_wp2
          go_loopw [9, 12] (fun u v wr => ∃ (j l2 cap2 g2 : Nat), j ≤ m ∧ u = .slice (some ⟨g2, 0, none⟩) l2 cap2 ∧ v = .int .i64 j ∧ Hid ((farL es keep V (farS N es keep E i) (L.take j)).2.length = l2 ∧ OwnI wr w2.heap.size N (farL es keep V (farS N es keep E i) (L.take j)).1 ∧ OwnI wr g2 cap2 (farL es keep V (farS N es keep E i) (L.take j)).2 ∧ w2.heap.size < g2) ∧ Hid (SeesI wr q4 (atF es V) ∧ ∀ b4 o4, q4 = some ⟨b4, o4, none⟩ → b4 ≠ g2 ∧ w2.heap.size < b4) ∧ Hid (Below w2.heap.size w2 wr)) (fun _ v _ => m - (intOf v).toNat)
          case atStart => exact ⟨0, l, cap, gq, Nat.zero_le _, rfl, rfl, HI4, hid ⟨HF4.out.sees, HQ4.out⟩, HBA⟩
          case round =>
            obtain ⟨j, l2, cap2, g2, hj, rfl, rfl, hI, hS, hBi⟩ := hrel
            clear HI4 HBA HQ4
            have hst := hid (show FarI N (farL es keep V (farS N es keep E i) (L.take j)) ∧ Grows N (farS N es keep E i) (farL es keep V (farS N es keep E i) (L.take j)) from by
              have h := farL_inv (keep := keep) (v := V) EI.out (by omega) (L.take j) (farS N es keep E i) FI.out (by simpa using HV1.out) (fun e he => HLm.out e (List.mem_of_mem_take he))
              exact ⟨h.1, h.2.1⟩)
            by_cases hlt2 : j < m
            · obtain ⟨S, hS1⟩ : ∃ S, S = farL es keep V (farS N es keep E i) (L.take j) := ⟨_, rfl⟩
              rw [← hS1] at hI hst
              have hjL : j < L.length := by have := HM.out; omega
              obtain ⟨e, he⟩ : ∃ e, e = L[j] := ⟨_, rfl⟩
              have hte : L.take (j + 1) = L.take j ++ [e] := by rw [take_nat hjL, he]
              have hS2 : farL es keep V (farS N es keep E i) (L.take (j + 1)) = farE es keep V S e := by rw [hte, farL_snoc, hS1]
              have HS2 := hid hS2
              obtain ⟨heE, heO⟩ := HLm.out e (by rw [he]; exact List.getElem_mem hjL)
              have hen : e < n := by have := Hn.out; omega
              obtain ⟨b4, o4, rfl, hrd4⟩ : ∃ b4 o4, q4 = some ⟨b4, o4, none⟩ ∧ ReadsI wr b4 o4 (atF es V) := by
                rcases hS.out.1 with h | h
                · have := HM.out; rw [HAT.out] at h; simp at h; rw [h] at hjL; simp at hjL
                · exact h
              have hc4 := hrd4 j (by rw [HAT.out, List.length_map]; exact hjL)
              have hae : eI (atF es V) j = (e : Int) := by rw [HAT.out, he, eI_lt (by simpa using hjL)]; simp
              rw [hae] at hc4
              have HR4 := hid hrd4
              obtain ⟨hb4g, hb4o⟩ := hS.out.2 b4 o4 rfl
              have hb4z := World.block_lt_of_cell? wr _ hc4
              have hin := oth_in EI.out heE heO
              obtain ⟨W, hW⟩ : ∃ W : Nat, othE es V e = W := ⟨_, (Int.toNat_of_nonneg hin.1).symm⟩
              have hWN : W < N := by omega
              have hWN' : (W : Int) < (N : Int) := by omega
              have hot : eA es e + eB es e - (V : Int) = W := hW
              have HOT := hid hot
              have HW := hid hW
              have hie : i < S.2.length := by have := hst.out.2.2.1; have := hC2.out.1; omega
              have hqv : eI S.2 i = V := by rw [hst.out.2.1 i (by have := hC2.out.1; omega), HV.out]
              have hl2 : l2 ≤ N := by have := hst.out.1.le; have := hI.out.1; omega
              have hil2 : i < l2 := by have := hI.out.1; omega
              have HXi := hid (HX0.out.on hBi.out)
              have HBx := hid (bfrom HB0.out hBi.out)
              have hxi := HXi.out.1
              have hyi := HXi.out.2
              have hzi := HXi.out.lt
              have hbi : b < wr.heap.size := by have := HBx.out.size; omega
              have hcq := hI.out.2.2.1.reads i hie
              rw [Nat.zero_add, hqv] at hcq
              have hg2 := hI.out.2.2.1.lt
              have hgO := hI.out.2.1.lt
              have hg2O := hI.out.2.2.2
              obtain ⟨y, hy⟩ : ∃ y, eI S.1 W = y := ⟨_, rfl⟩
              obtain ⟨d, hd⟩ : ∃ d, eI S.1 V = d := ⟨_, rfl⟩
              have HY := hid hy
              have HD := hid hd
              have hdb := hst.out.1.bnd V hVN
              have hyb := hst.out.1.bnd W hWN
              rw [hd] at hdb
              rw [hy] at hyb
              obtain ⟨d1, d2⟩ := hdb
              obtain ⟨y1, y2⟩ := hyb
              have d3 : d ≤ 20 := by have := hst.out.1.le; omega
              have e4 : IntKind.i64.wrap (d + 1) = d + 1 := IntWalk.i64_in _ (by omega)
              have hea := EI.out e heE
              have HEA := hid (show (0 ≤ eA es e ∧ eA es e ≤ 1000) ∧ (0 ≤ eB es e ∧ eB es e ≤ 1000) by omega)
              obtain ⟨kb, hkb⟩ : ∃ kb, keep e = kb := ⟨_, rfl⟩
              have hkx : ((e : Int) != ex) = kb := by rw [← HK.out e, hkb]
              have HKB := hid hkb
              have HST := hst
              clear hS1 he hte hS2 heE heO hrd4 hae hin hW hot hie hqv hea hkb hy hd
              obtain ⟨wi, rfl⟩ : ∃ wi : World, wi = wr := ⟨_, rfl⟩
              go_wp2
              go_still_tail 9, (by kernel_rfl)
              go_wp2_with fail
              refine (sOther_any _ _ _ b off n c e es _ (by omega) Hn.out (Hr.out.on (bfrom HB0.out hBi.out.drew)) rfl hen HEA.out.1 HEA.out.2 (by omega)).mono ?_
              rw [HOT.out]
              rintro e' w5 ⟨rfl, hb5⟩
              have HB5 := hid (bfrom (w := wi) (Below.refl _ _).drew hb5)
              have HI5 := hid (show OwnI w5 w2.heap.size N S.1 ∧ OwnI w5 g2 cap2 S.2 from ⟨hI.out.2.1.on HB5.out, hI.out.2.2.1.on HB5.out⟩)
              have HR5 := hid (HR4.out.on HB5.out)
              have HBI5 := hid (show Below w2.heap.size w2 w5 from hBi.out.trans (HB5.out.mono (by have := hBi.out.size; omega)))
              have hz5 : wi.heap.size ≤ w5.heap.size := HB5.out.size
              have hcy := HI5.out.1.reads W (by rw [HST.out.1.len]; exact hWN)
              have hcd := HI5.out.1.reads V (by rw [HST.out.1.len]; exact hVN)
              rw [Nat.zero_add, HY.out] at hcy
              rw [Nat.zero_add, HD.out] at hcd
              have hfy := HI5.out.1.free W
              have hc45 := (HB5.out.cell (p := ⟨b4, o4 + j, none⟩) hb4z).trans hc4
              have hcq5 := (HB5.out.cell (p := ⟨g2, i, none⟩) hg2).trans hcq
              clear hb5 hxi hyi hc4 hcq
              by_cases hgo : kb = true ∧ y = -1
              · obtain ⟨rfl, rfl⟩ := hgo
                have hlty : decide ((-1 : Int) < 0) = true := by decide
                have HE := hid (show farE es keep V S e = (S.1.set W (d + 1), S.2 ++ [(W : Int)]) by unfold farE; rw [HW.out, Int.toNat_natCast, if_pos ⟨HKB.out, HY.out⟩, Int.toNat_natCast, HD.out])
                have HRow := hid ((HI5.out.2.far (a := ⟨w2.heap.size, W, none⟩) (by show g2 ≠ w2.heap.size; omega) (.int .i64 (d + 1))).alloc (.cells #[.int .i64 W] 2))
                have HSz := hid (show (w5.setCell ⟨w2.heap.size, W, none⟩ (.int .i64 (d + 1))).heap.size = w5.heap.size by simp [World.setCell])
                have HNew := hid (show ((w5.setCell ⟨w2.heap.size, W, none⟩ (.int .i64 (d + 1))).alloc (.cells #[.int .i64 W] 2)).heap[w5.heap.size]? = some (.cells #[.int .i64 W] 2 (0, 0)) by rw [← HSz.out]; exact heap_alloc_new _ _)
                go_wp2_with (at_builtin; go_must (refine wpList_append_lies _ rfl (.tmp 83) (.tmp 85) 35 rfl (w2.heap.size + 1) 2 i0 (.int .i64 0) 1 8 Try.underlying35 Hi.out hz0 hz1 hz2 rfl (by decide) (.slice (some ⟨g2, 0, none⟩) l2 cap2) l2 _ rfl (OwnI.row HRow.out hI.out.1 (by omega)) ⟨w5.heap.size, 0, none⟩ 1 1 [.int .i64 W] rfl rfl (World.news_of_block (cs := #[.int .i64 W]) (t := 2) (fr := (0, 0)) HNew.out) (by simp [Value.oneCell']) (by decide) (by unfold maxLen; omega) (by omega) (by rw [World.size_alloc, HSz.out]; omega) (w5.heap.size + 1) (by rw [World.size_alloc, HSz.out]) ?_); intro g6 cap6 w6 hown6 hgrow6 hlie6 hg6; have Hown := hid hown6; have Hgrow := hid hgrow6; have Hlie := hid hlie6; clear hown6 hgrow6 hlie6)
                have HO6 := hid (OwnI.grown (g1 := g2) ((OwnI.set HI5.out.1 (by rw [HST.out.1.len]; exact hWN) (d + 1)).alloc (.cells #[.int .i64 W] 2)) Hgrow.out (by omega))
                have HR6 := hid (ReadsI.grown (g1 := g2) ((HR5.out.far (a := ⟨w2.heap.size, W, none⟩) (by show b4 ≠ w2.heap.size; omega) (.int .i64 (d + 1))).on (on_alloc _ (.cells #[.int .i64 W] 2))) (by rw [World.size_alloc, HSz.out]; omega) Hgrow.out hb4g)
                have HB6 := hid (below_grown_row (g1 := g2) ((HBI5.out.setCell (p := ⟨w2.heap.size, W, none⟩) (Nat.le_refl _) (.int .i64 (d + 1))).alloc (by rw [HSz.out]; omega) (.cells #[.int .i64 W] 2)) Hgrow.out (by rw [World.size_alloc, HSz.out]; omega) (by omega))
                have hg6 : g6 = g2 ∨ g6 = w5.heap.size + 1 := by
                  rcases Hlie.out with h | h
                  · exact .inl (Option.some.inj h).symm
                  · exact .inr h
                go_roundw
                case rel =>
                  refine ⟨j + 1, l2 + 1, cap6, g6, by omega, rfl, by go_num, hid ⟨?_, ?_, ?_, ?_⟩, hid ⟨.inr ⟨b4, o4, rfl, HR6.out⟩, fun b' o' h => ?_⟩, HB6⟩
                  · rw [HS2.out, HE.out, List.length_append, hI.out.1]; rfl
                  · rw [HS2.out, HE.out]; exact HO6.out
                  · rw [HS2.out, HE.out]
                    exact (OwnI.of_row (n := l2 + 1) (by rw [intVals_append]; exact Hown.out) (by rw [List.length_append, hI.out.1]; rfl)).1
                  · omega
                  · cases h
                    omega
                case measure => simp [intOf]; omega
              · have HE := hid (show farE es keep V S e = S by unfold farE; rw [HW.out, Int.toNat_natCast, if_neg (fun h => hgo ⟨by rw [← HKB.out]; exact h.1, by rw [← HY.out]; exact h.2⟩)])
                have hkeepS : farL es keep V (farS N es keep E i) (L.take (j + 1)) = S := by rw [HS2.out, HE.out]
                have HKS := hid hkeepS
                clear hkeepS
                have hg2' : g2 < w5.heap.size := by omega
                cases kb
                · go_wp2
                  go_roundw
                  case rel => exact ⟨j + 1, l2, cap2, g2, by omega, rfl, by go_num, hid (by rw [HKS.out]; exact ⟨hI.out.1, HI5.out.1, HI5.out.2, hg2O⟩), hid ⟨.inr ⟨b4, o4, rfl, HR5.out⟩, fun b' o' h => by cases h; exact ⟨hb4g, hb4o⟩⟩, HBI5⟩
                  case measure => simp [intOf]; omega
                · have hlty : decide (y < 0) = false := by
                    have : y ≠ -1 := fun h => hgo ⟨rfl, h⟩
                    simp
                    omega
                  go_wp2
                  go_roundw
                  case rel => exact ⟨j + 1, l2, cap2, g2, by omega, rfl, by go_num, hid (by rw [HKS.out]; exact ⟨hI.out.1, HI5.out.1, HI5.out.2, hg2O⟩), hid ⟨.inr ⟨b4, o4, rfl, HR5.out⟩, fun b' o' h => by cases h; exact ⟨hb4g, hb4o⟩⟩, HBI5⟩
                  case measure => simp [intOf]; omega
            · have hend : farL es keep V (farS N es keep E i) (L.take j) = farS N es keep E (i + 1) := by
                rw [List.take_of_length_le (by have := HM.out; omega), farS_step (by have := hC2.out.1; omega), HV.out, HL.out]
              have HEnd := hid hend
              have hl2 : i + 1 ≤ l2 := by have h1 := hst.out.2.2.1; have h2 := hC2.out.1; have h3 := hI.out.1; omega
              have HJM := hid (show j = m by omega)
              clear hend
              go_wp2
              go_roundw
              case rel => exact ⟨i + 1, l2, cap2, g2, hl2, rfl, by go_num, hid (by rw [← HEnd.out]; exact hI.out), hBi⟩
              case measure => simp [intOf]; omega
        · have hil : i = l := by omega
          have HF := hid (farF_end (keep := keep) EI.out HA.out (i := i) (by have := hC2.out.1; omega))
          have HFl := hid (farF_len (keep := keep) EI.out HA.out)
          go_wp2
          go_ret
          refine ⟨_, _, rfl, FreshI.less (FreshI.of_own (by rw [← HF.out]; exact hC2.out.2.1) HFl.out (Nat.le_refl _)) (by have := HB0.out.size; omega), bfrom HB0.out hB2.out⟩

end Go.Proofs.Ytnimlipogphhmaa
