/- Faces in the model: l07Next and l07Faces. -/
import Derived.Test.YtpadnliebimceaaFacB
import Derived.Test.YtpadnliebimceaaSpecAt
import Derived.Test.YtpadnliebimceaaRowsM
import Derived.Test.YtpadnliebimceaaLawsF
import Derived.Deep.AppendLies
import Derived.Deep.DeepMust
namespace Go.Proofs.Ytpadnliebimceaa
open Go.RowKit

attribute [local go_sem] Oper.semAt_some

def lenF : Value → Nat | .slice _ n _ => n | _ => 0
theorem infoBoF : (Try.prog.info? 4).map (fun i => (i.zero, i.size, i.bytes)) = some (some (.bool false), 1, 1) := by kernel_rfl
theorem RowsM.less {w : World} {B B' cap : Nat} {q : Option Addr} {Ls : List (List Int)} {vals : List Value} (h : RowsM w B Ls cap q vals) (hB : B' ≤ B) : RowsM w B' Ls cap q vals := by
  obtain ⟨h1, h2, h3⟩ := h
  refine ⟨⟨h1.1, ?_⟩, h2, fun i hi => ?_⟩
  · rcases h1.2 with hn | ⟨g, c, cur, hv, hb, r⟩
    · exact .inl hn
    · exact .inr ⟨g, c, cur, hv, by omega, r⟩
  · obtain ⟨g, c, e1, e2, e3⟩ := h3 i hi
    exact ⟨g, c, e1, by omega, e3⟩

/-- A rotation: a turn for each vertex. -/
def rotP (N : Nat) (xs : List Int) : Prop := xs.length = N ∧ ∀ i, i < N → eI xs i = 0 ∨ eI xs i = 1
instance (N : Nat) (xs : List Int) : Decidable (rotP N xs) := by unfold rotP; infer_instance

set_option maxRecDepth 100000 in
set_option maxHeartbeats 8000000 in
theorem sNext_any (N b off n c xb xo xc d V : Nat) (es : List (Int × Int)) (xs : List Int) (w : World) (hn : es.length = n) (hr : ReadsE w b off es) (g : IsG N es) (hx : rotP N xs) (hrx : ReadsI w xb xo xs) (hd : d < 2 * n) (hV : toD es d = V) :
    Calls Try.prog 138 #[.agg #[.int .i64 N, .slice (some ⟨b, off, none⟩) n c], .slice (some ⟨xb, xo, none⟩) N xc, .int .i64 ((d / 2 : Nat) : Int), .int .i64 V] w fun e' w' => e' = .returned (.int .i64 ((nxD es xs d / 2 : Nat) : Int)) ∧ Below w.heap.size w w' := by
  have hn30 : n ≤ 30 := by have := isG_len g; omega
  have hN20 : N ≤ 20 := by have := g.1.1.2.1; omega
  have hN2 : 2 ≤ N := by have := g.1.1.1; omega
  obtain ⟨i0, j, hi3, hgi, hidx, hj, hnx, hfr, hlt⟩ := nxD_at (xs := xs) g (by rw [hn]; exact hd)
  obtain ⟨⟨t1, t1'⟩, t2, t3⟩ := toD_in g (by rw [hn]; exact hd)
  obtain ⟨l1, l2, l3⟩ := onL_getD g (v := toD es d) ⟨t1, t1'⟩
  rw [hV] at hgi hidx hj hnx t1 t1' l1 l2 l3
  have hVN : V < N := by omega
  obtain ⟨L, hL⟩ : ∃ L, onL es (V : Int) = L := ⟨_, rfl⟩
  have hat : atF es (V : Int) = L.map fun (i : Nat) => (i : Int) := by rw [← hL]; exact onL_at es _
  rw [hL] at hgi hidx hnx l1 l2 l3
  have hal : (atF es (V : Int)).length = 3 := by rw [hat, List.length_map, l1]
  have hae : ∀ i, i < 3 → eI (atF es (V : Int)) i = ((L.getD i 0 : Nat) : Int) := fun i hi => by
    rw [hat, eI_lt (by rw [List.length_map, l1]; exact hi), List.getElem_map, List.getD_eq_getElem?_getD, List.getElem?_eq_getElem (by omega)]
    rfl
  obtain ⟨r, hr1⟩ : ∃ r : Nat, eI xs V = r := ⟨(eI xs V).toNat, by have := hx.2 V hVN; omega⟩
  have hr2 : r ≤ 1 := by have := hx.2 V hVN; omega
  rw [Int.toNat_natCast, hr1, Int.toNat_natCast] at hj
  have hj3 : j < 3 := by rw [hj]; exact Nat.mod_lt _ (by decide)
  have hcr := hrx V (by rw [hx.1]; exact hVN)
  rw [hr1] at hcr
  obtain ⟨E, hE⟩ : ∃ E, nxD es xs d / 2 = E := ⟨_, rfl⟩
  rw [hE] at hnx ⊢
  obtain ⟨F, hF⟩ : ∃ F, d / 2 = F := ⟨_, rfl⟩
  rw [hF] at hgi hidx ⊢
  have hmin : ∀ q, q < i0 → L.getD q 0 ≠ F := fun q hq e => by
    rw [List.getD_eq_getElem?_getD, List.getElem?_eq_getElem (by omega)] at e
    rw [List.getD_eq_getElem?_getD, List.getElem?_eq_getElem (by omega)] at hgi
    have := (List.getElem_inj l2).1 ((show L[q] = F from e).trans (show F = L[i0] from hgi.symm))
    omega
  have hxbw := World.block_lt_of_cell? w _ hcr
  dsimp only at hxbw
  have HCr := hid hcr
  have Hn := hid hn
  have Hr := hid hr
  have HAe := hid hae
  have HGi := hid hgi
  have HMin := hid hmin
  have HNx := hid hnx
  have HJ := hid hj
  clear hn hr g hx hrx hd hV hidx hj hnx hfr hlt t1 t1' t2 t3 l1 l2 l3 hL hat hr1 hcr hE hF hgi hmin hae
  go_enter Try.func138, Try.ntmps138
  go_wp2_with fail
  refine (sAt_any _ V b off n c es _ Hn.out hn30 (Hr.out.on (on_alloc _ _))).mono ?_
  rw [hal]
  rintro e w2 ⟨q2, c2, rfl, hf2, hb2⟩
  obtain ⟨g2, rfl, hg2, ho2⟩ : ∃ g, q2 = some ⟨g, 0, none⟩ ∧ (w.alloc (.cells #[.int .i64 (N : Int), .slice (some ⟨b, off, none⟩) n c] 24)).heap.size ≤ g ∧ OwnI w2 g c2 (atF es (V : Int)) := by
    rcases hf2.form with ⟨_, h, _⟩ | h
    · omega
    · exact h
  have HB2 := hid (bfrom (on_alloc w (.cells #[.int .i64 (N : Int), .slice (some ⟨b, off, none⟩) n c] 24)) hb2)
  have HO2 := hid ho2
  have hcr2 := ((bcells HB2.out).1 xb _ hxbw).trans HCr.out
  have hx2 : xb < w2.heap.size := by have := HB2.out.size; omega
  have hgz2 := ho2.lt
  have hVN' : (V : Int) < (N : Int) := by omega
  clear hf2 hb2 ho2 hg2
  go_wp2
  go_loopw [10] (fun v wr => ∃ i : Nat, i ≤ i0 ∧ v = .int .i64 i ∧ w2 = wr) (fun v _ => 3 - (intOf v).toNat)
  case atStart => exact ⟨0, Nat.zero_le _, rfl, rfl⟩
  case round =>
    obtain ⟨i, hi, rfl, rfl⟩ := hrel
    have hi' : (i : Int) < 3 := by omega
    have hc := HO2.out.reads i (by rw [hal]; omega)
    rw [Nat.zero_add, HAe.out i (by omega)] at hc
    by_cases he : i = i0
    · subst he
      rw [HGi.out] at hc
      have hq : ((F : Int) == (F : Int)) = true := by simp
      have e1 : IntKind.i64.wrap ((i : Int) + 1) = (i : Int) + 1 := IntWalk.i64_in _ (by omega)
      have e2 : IntKind.i64.wrap ((i : Int) + 1 + (r : Int)) = (i : Int) + 1 + (r : Int) := IntWalk.i64_in _ (by omega)
      have e3 : (0 : Int) ≤ ((i : Int) + 1 + (r : Int)) % 3 := by omega
      have e4 : ((i : Int) + 1 + (r : Int)) % 3 < 3 := by omega
      have hcj := HO2.out.reads j (by rw [hal]; exact hj3)
      rw [Nat.zero_add, HAe.out j hj3, ← HNx.out, HJ.out] at hcj
      go_wp2
      go_ret
      exact ⟨rfl, HB2.out⟩
    · obtain ⟨P, hP⟩ : ∃ P, L.getD i 0 = P := ⟨_, rfl⟩
      rw [hP] at hc
      have hne : ((P : Int) == (F : Int)) = false := by
        have := HMin.out i (by omega)
        simp only [beq_eq_false_iff_ne, ne_eq]
        omega
      clear hP
      go_wp2
      go_roundw
      case rel => exact ⟨i + 1, by omega, by go_num, trivial⟩
      case measure => simp [intOf]; omega

theorem nxD_eq (es : List (Int × Int)) (xs : List Int) (d : Nat) : nxD es xs d = 2 * (nxD es xs d / 2) + (if eA es (nxD es xs d / 2) = toD es d then 0 else 1) := by
  obtain ⟨E, hE⟩ : ∃ E, (onL es (toD es d)).getD (((onL es (toD es d)).idxOf (d / 2) + 1 + (eI xs (toD es d).toNat).toNat) % 3) 0 = E := ⟨_, rfl⟩
  have hn : nxD es xs d = 2 * E + (if eA es E = toD es d then 0 else 1) := by unfold nxD; rw [hE]
  have hn2 : nxD es xs d / 2 = E := by rw [hn]; split <;> omega
  rw [hn2]
  exact hn

set_option maxRecDepth 100000 in
set_option maxHeartbeats 32000000 in
theorem sFaces_any (N b off n c xb xo xc : Nat) (es : List (Int × Int)) (xs : List Int) (w : World) (hn : es.length = n) (hr : ReadsE w b off es) (g : IsG N es) (hx : rotP N xs) (hrx : ReadsI w xb xo xs) :
    Calls Try.prog 110 #[.agg #[.int .i64 N, .slice (some ⟨b, off, none⟩) n c], .slice (some ⟨xb, xo, none⟩) N xc] w fun e' w' => ∃ q cap vals, e' = .returned (.slice q (faceL (nxD es xs) (2 * n) (2 * n)).length cap) ∧ RowsM w' w.heap.size (faceL (nxD es xs) (2 * n) (2 * n)) cap q vals ∧ Below w.heap.size w w' := by
  have hn30 : n ≤ 30 := by have := isG_len g; omega
  have hN20 : N ≤ 20 := by have := g.1.1.2.1; omega
  have hN2 : 2 ≤ N := by have := g.1.1.1; omega
  have Hn := hid hn
  have Hr := hid hr
  have G := hid g
  have Hx := hid hx
  have Hrx := hid hrx
  have hbl : b < w.heap.size := reads_lt hr (by have := g.1.1.2.2.2; omega)
  have hxl : xb < w.heap.size := hrx.lt (by rw [hx.1]; omega)
  obtain ⟨nx, hnx⟩ : ∃ nx, nxD es xs = nx := ⟨_, rfl⟩
  obtain ⟨m, hm⟩ : ∃ m, 2 * n = m := ⟨_, rfl⟩
  have hpm := perm_nxD (xs := xs) g
  rw [hn, hnx, hm] at hpm
  rw [hnx, hm]
  have HP := hid hpm
  have HNx := hid hnx
  have HMm := hid hm
  have hm60 : m ≤ 60 := by omega
  have e0 : IntKind.i64.wrap (2 * (n : Int)) = (m : Int) := by rw [show 2 * (n : Int) = (m : Int) by omega]; exact IntWalk.i64_in _ (by omega)
  obtain ⟨i0, hi, hz0, hz1, hz2⟩ := info_parts infoBoF
  obtain ⟨j0, hj, hy0, hy1, hy2⟩ := info_parts infoInt
  obtain ⟨s0, hs, hs0, hs1, hs2⟩ := info_parts infoSlR
  have Hi := hid hi
  have Hj := hid hj
  have Hs := hid hs
  clear hn hr g hx hrx hi hj hs hnx hm hpm
  go_enter Try.func110, Try.ntmps110
  have HX0 := hid (Box.new w N (some ⟨b, off, none⟩) n c 24)
  have HB0 := hid (on_alloc w (.cells #[.int .i64 N, .slice (some ⟨b, off, none⟩) n c] 24))
  obtain ⟨w2, hw2⟩ : ∃ w2, w2 = w.alloc (.cells #[.int .i64 N, .slice (some ⟨b, off, none⟩) n c] 24) := ⟨_, rfl⟩
  rw [← hw2] at HX0 HB0
  have hz2' := HX0.out.lt
  have hs2' := HB0.out.size
  go_wp2_with (at_make; rw [← hw2]; clear hw2; refine wpList_make_full _ rfl _ _ 70 rfl w2.heap.size 4 i0 (.bool false) 1 Try.underlying70 Hi.out hz0 hz1 _ _ _ _ m rfl rfl rfl rfl (by rw [hz2]; omega) (by unfold maxLen; omega) (Nat.le_refl _) ?_; intro w3 hown hgrow; have Ho := hid (OwnB.made hown); have Hb3 := hid ((Below.refl w2.heap.size w2).grown hgrow (Nat.le_refl _) (fun k e => by cases e)); have hgM := Ho.out.lt; clear hown hgrow)
  obtain ⟨w4, hw4⟩ : ∃ w4, w4 = w3.alloc (.cells #[] 25) := ⟨_, rfl⟩
  rw [← hw4]
  have HB4 := hid (show Below w2.heap.size w2 w4 by rw [hw4]; exact Hb3.out.alloc (by omega) _)
  have HM4 := hid (show OwnB w4 w2.heap.size m (mFL nx m 0) by rw [hw4, mFL_zero]; exact Ho.out.alloc _)
  have HR4 := hid (show RowsM w4 (w2.heap.size + 1) (faceL nx m 0) 0 (some ⟨w3.heap.size, 0, none⟩) [] by rw [hw4]; exact RowsM.nil (World.ownsRow_made (base := w2.heap.size + 1) (e := 25) (size := 1) w3 #[] 0 (by omega) (Nat.zero_le _) rfl))
  have hz4 : w2.heap.size < w4.heap.size := by rw [hw4]; simp; omega
  clear hw4
  go_loopw [6, 7] (fun u v wr => ∃ (k cap : Nat) (q : Option Addr) (vals : List Value), k ≤ m ∧ u = .slice q (faceL nx m k).length cap ∧ v = .int .i64 k ∧ Hid (OwnB wr w2.heap.size m (mFL nx m k) ∧ RowsM wr (w2.heap.size + 1) (faceL nx m k) cap q vals) ∧ Hid (Below w2.heap.size w2 wr)) (fun _ v _ => m - (intOf v).toNat)
  case atStart => exact ⟨0, 0, _, [], Nat.zero_le _, rfl, rfl, hid ⟨HM4.out, HR4.out⟩, HB4⟩
  case round =>
    obtain ⟨k, cap, q, vals, hk, rfl, rfl, hC, hB⟩ := hrel
    clear Ho Hb3 HM4 HR4 HB4
    have hcl := faceL_len nx m k
    obtain ⟨K, hK⟩ : ∃ K, (faceL nx m k).length = K := ⟨_, rfl⟩
    rw [hK] at hcl ⊢
    have HK := hid hK
    clear hK
    by_cases hlt : k < m
    · have hlt' : (k : Int) < (m : Int) := by omega
      have hcm := hC.out.1.cell (i := k) (by rw [mFL_len]; exact hlt)
      rw [mFL_at hlt] at hcm
      have hgz := hC.out.1.lt
      have HBw := hid (bfrom HB0.out hB.out)
      have hszw := HBw.out.size
      obtain ⟨a, ha⟩ : ∃ a, metF nx m k k = a := ⟨_, rfl⟩
      rw [ha] at hcm
      have HA := hid ha
      clear ha
      cases a
      · obtain ⟨Kc, hKc⟩ : ∃ Kc, perN nx m k = Kc := ⟨_, rfl⟩
        have hsp := per_spec HP.out hlt
        rw [hKc] at hsp
        obtain ⟨hK0, hKn, hKe, hKm⟩ := hsp
        have HKc := hid hKc
        clear hKc hKe hKm
        obtain ⟨wo, rfl⟩ : ∃ wo : World, wo = wr := ⟨_, rfl⟩
        have HO6 := hid (show OwnI (wo.alloc (.cells #[] 2)) wo.heap.size 0 (feL nx k 0) from own_nil wo _ rfl)
        have HM6 := hid (show OwnB (wo.alloc (.cells #[] 2)) w2.heap.size m (mjF nx m k 0) by rw [mjF_zero]; exact hC.out.1.alloc _)
        have HK6 := hid (show Kept (fun i => i < wo.heap.size ∧ i ≠ w2.heap.size) wo (wo.alloc (.cells #[] 2)) from (Kept.refl _ wo).call (on_alloc _ _))
        go_wp2
        clear hcm
        go_loopw [8, 9] (fun u v wx => ∃ (j cc gc X : Nat), j ≤ Kc ∧ wo.heap.size ≤ gc ∧ u = .slice (some ⟨gc, 0, none⟩) j cc ∧ v = .int .i64 X ∧ Hid (itN nx k j = X) ∧ Hid (OwnI wx gc cc (feL nx k j) ∧ OwnB wx w2.heap.size m (mjF nx m k j)) ∧ Hid (Kept (fun i => i < wo.heap.size ∧ i ≠ w2.heap.size) wo wx)) (fun u _ _ => Kc - lenF u)
        case atStart => exact ⟨0, 0, wo.heap.size, k, by omega, Nat.le_refl _, rfl, rfl, hid rfl, hid ⟨HO6.out, HM6.out⟩, HK6⟩
        case round =>
          obtain ⟨j, cc, gc, X, hj, hgc, rfl, rfl, hS, hOM, hKp⟩ := hrel
          clear HO6 HM6 HK6
          have hszx := hKp.out.size
          have hXm : X < m := by rw [← hS.out]; exact it_lt HP.out hlt j
          have hXm' : (X : Int) < (m : Int) := by omega
          have hcF := hOM.out.2.cell (i := X) (by rw [mjF_len]; exact hXm)
          have hnow := mjF_now HP.out hlt HA.out (j := j) (by rw [HKc.out]; exact hj)
          rw [hS.out, HKc.out] at hnow
          rw [hnow] at hcF
          have hfF := hOM.out.2.free X
          have hgMx := hOM.out.2.lt
          have hgcx := hOM.out.1.lt
          by_cases hlast : j = Kc
          · rw [decide_eq_true hlast] at hcF
            have HLast := hid hlast
            clear hlast hnow
            have HB9 := hid (show Below w2.heap.size w2 wr from hB.out.trans (hKp.out.below (fun i hi => ⟨by omega, by omega⟩) (by omega)))
            have HRw := hid (hC.out.2.kept (w' := wr) (fun i h1 h2 => hKp.out.same i ⟨h2, by omega⟩ h2))
            have HOc := hid (show OwnI wr gc cc (feL nx k (perN nx m k)) by rw [HKc.out, ← HLast.out]; exact hOM.out.1)
            have HMc := hid (show OwnB wr w2.heap.size m (mFL nx m (k + 1)) by rw [← mjF_end, HKc.out, ← HLast.out]; exact hOM.out.2)
            have HLc := hid (show (feL nx k (perN nx m k)).length = j by rw [feL_len, HKc.out, HLast.out])
            obtain ⟨wi, rfl⟩ : ∃ wi : World, wi = wr := ⟨_, rfl⟩
            have HPa := hid (HRw.out.kept (w' := wi.alloc (.cells #[.slice (some ⟨gc, 0, none⟩) j cc] 25)) (fun i _ h2 => heap_alloc_old _ _ h2))
            have hrow8 : ∀ j', (Value.slice q K cap).ownBlock = some j' → w2.heap.size + 1 ≤ j' ∧ j' < wi.heap.size := by have h := HRw.out.1.lt; rw [HK.out] at h; exact h
            have hK31 : K + 1 ≤ 61 := by omega
            have hvals : (faceL nx m k).length = K := HK.out
            have HVals := hid hvals
            clear hvals
            go_wp2_with (at_builtin; go_must (refine wpList_append_lies _ rfl (.tmp 71) (.tmp 73) 41 rfl (w2.heap.size + 1) 25 s0 (.slice none 0 0) 1 24 Try.underlying41 Hs.out hs0 hs1 hs2 rfl (by decide) (.slice q K cap) K vals rfl (by have h := HPa.out.1; rw [HVals.out] at h; exact h) ⟨wi.heap.size, 0, none⟩ 1 1 [.slice (some ⟨gc, 0, none⟩) j cc] rfl rfl (World.news_of_block (cs := #[.slice (some ⟨gc, 0, none⟩) j cc]) (t := 25) (fr := (0, 0)) (heap_alloc_new _ _)) (by simp [Value.oneCell']) (by decide) (by unfold maxLen; omega) (by omega) (by simp; omega) (wi.heap.size + 1) (by simp) ?_); intro g8 cap8 w8 hown8 hgrow8 hlie8 hg8; have Hown8 := hid hown8; have Hgrow8 := hid hgrow8; clear hown8 hgrow8 hlie8)
            go_roundw
            case rel =>
              refine ⟨k + 1, cap8, some ⟨g8, 0, none⟩, vals ++ [.slice (some ⟨gc, 0, none⟩) j cc], by omega, by rw [faceL_yes HA.out, List.length_append, HVals.out]; rfl, by go_num, hid ⟨?_, ?_⟩, hid ?_⟩
              · exact (HMc.out.alloc _).keep (Hgrow8.out.block w2.heap.size (by have := HMc.out.lt; rw [World.size_alloc]; omega) (fun e => by have := (hrow8 _ e.symm).1; omega))
              · rw [faceL_yes HA.out]
                exact RowsM.push (m := j) HPa.out (HOc.out.alloc _) (by omega) HLc.out (by rw [HVals.out]; exact Hown8.out) (by rw [HVals.out]; exact Hgrow8.out)
              · exact (HB9.out.alloc HB9.out.size _).grown Hgrow8.out (by rw [World.size_alloc]; have := HB9.out.size; omega) (fun j' e => by have := (hrow8 j' e).1; omega)
            case measure => simp [intOf]; omega
          · rw [decide_eq_false hlast] at hcF
            have hjK : j < Kc := by omega
            clear hlast hnow
            obtain ⟨wi, rfl⟩ : ∃ wi : World, wi = wr := ⟨_, rfl⟩
            obtain ⟨F, hF⟩ : ∃ F, X / 2 = F := ⟨_, rfl⟩
            have hFn : F < n := by have := HMm.out; omega
            have hFn' : (F : Int) < (n : Int) := by omega
            have eF : (X : Int) / 2 = (F : Int) := by omega
            have HRow := hid ((hOM.out.1.far (a := ⟨w2.heap.size, X, none⟩) (by show gc ≠ w2.heap.size; omega) (.bool true)).alloc (.cells #[.int .i64 F] 2))
            have HSz := hid (show (wi.setCell ⟨w2.heap.size, X, none⟩ (.bool true)).heap.size = wi.heap.size by simp [World.setCell])
            have HNew := hid (show ((wi.setCell ⟨w2.heap.size, X, none⟩ (.bool true)).alloc (.cells #[.int .i64 F] 2)).heap[wi.heap.size]? = some (.cells #[.int .i64 F] 2 (0, 0)) by rw [← HSz.out]; exact heap_alloc_new _ _)
            have hj31 : j + 1 ≤ 61 := by omega
            have htd := toD_in G.out (d := X) (by rw [Hn.out, HMm.out]; exact hXm)
            obtain ⟨V, hV⟩ : ∃ V : Nat, toD es X = V := ⟨_, (Int.toNat_of_nonneg htd.1.1).symm⟩
            have HV := hid hV
            have HF := hid hF
            have hVab : (X % 2 = 0 ∧ eB es F = V) ∨ (X % 2 = 1 ∧ eA es F = V) := by
              unfold toD at hV
              rw [hF] at hV
              by_cases e : X % 2 = 0
              · rw [if_pos e] at hV; exact .inl ⟨e, hV⟩
              · rw [if_neg e] at hV; exact .inr ⟨by omega, hV⟩
            have HNxt := hid (fun (W : World) (hW : Below w2.heap.size w2 W) => sNext_any N b off n c xb xo xc X V es xs W Hn.out (Hr.out.on (bfrom HB0.out hW)) G.out Hx.out (Hrx.out.on (bfrom HB0.out hW)) (by have := HMm.out; omega) hV)
            obtain ⟨E, hE⟩ : ∃ E, nxD es xs X / 2 = E := ⟨_, rfl⟩
            rw [hE, hF] at HNxt
            have hXt := it_lt HP.out hlt (j + 1)
            have hstep : itN nx k (j + 1) = nxD es xs X := by show nx (itN nx k j) = _; rw [hS.out, ← HNx.out]
            rw [hstep] at hXt
            have hEn : E < n := by have := HMm.out; omega
            have hEn' : (E : Int) < (n : Int) := by omega
            have hnq := nxD_eq es xs X
            rw [hE, hV] at hnq
            have HNq := hid hnq
            have HStep := hid hstep
            clear htd hV hF hE hXt hstep hnq
            rcases hVab with ⟨hpar, hve⟩ | ⟨hpar, hve⟩
            · have hpar1 : (X : Int) % 2 = 0 := by omega
              have e1p : IntKind.i64.wrap (1 - (X : Int) % 2) = 1 := by rw [hpar1]; rfl
              go_wp2_with (at_builtin; go_must (refine wpList_append_lies _ rfl (.tmp 41) (.tmp 43) 25 rfl wo.heap.size 2 j0 (.int .i64 0) 1 8 Try.underlying25 Hj.out hy0 hy1 hy2 rfl (by decide) (.slice (some ⟨gc, 0, none⟩) j cc) j _ rfl (OwnI.row HRow.out feL_len (by omega)) ⟨wi.heap.size, 0, none⟩ 1 1 [.int .i64 F] rfl rfl (World.news_of_block (cs := #[.int .i64 F]) (t := 2) (fr := (0, 0)) HNew.out) (by simp [Value.oneCell']) (by decide) (by unfold maxLen; omega) (by omega) (by rw [World.size_alloc, HSz.out]; omega) (wi.heap.size + 1) (by rw [World.size_alloc, HSz.out]) ?_); intro g7 cap7 w7 hown7 hgrow7 hlie7 hg7; have Hown7 := hid hown7; have Hgrow7 := hid hgrow7; have Hlie7 := hid hlie7; have hKp7 : Kept (fun i => i < wo.heap.size ∧ i ≠ w2.heap.size) wo w7 := ((hKp.out.set (a := ⟨w2.heap.size, X, none⟩) (fun h => h.2 rfl) (.bool true)).call (on_alloc _ (.cells #[.int .i64 F] 2))).row hgrow7 (fun r e h => by have e1 : gc = r := Option.some.inj e; have h1 := h.1; omega); have HKp7 := hid hKp7; have hB7 : Below w2.heap.size w2 w7 := hB.out.trans (hKp7.below (fun i hi => ⟨by omega, by omega⟩) (by omega)); have HB7 := hid hB7; have hX7 := HX0.out.on hB7; have hx7 := hX7.1; have hy7 := hX7.2; have hz7 := hX7.lt; have hBw7 := bfrom HB0.out hB7; have HBw7 := hid hBw7; have hcA := (Hr.out.on hBw7 F (by rw [Hn.out]; exact hFn)).1; have hcB := (Hr.out.on hBw7 F (by rw [Hn.out]; exact hFn)).2; have hbl7 := World.block_lt_of_cell? w7 _ hcA; rw [hve] at hcB; clear hcA; clear hown7 hgrow7 hlie7 hKp7 hB7 hX7 hBw7)
              go_wp2_with fail
              refine (HNxt.out _ HB7.out).mono ?_
              rintro e' w8 ⟨rfl, hb8⟩
              have HMo7 := hid (show OwnB w7 w2.heap.size m (mjF nx m k (j + 1)) by
                rw [← mjF_step HP.out hlt, hS.out]
                exact ((OwnB.set hOM.out.2 (by rw [mjF_len]; exact hXm) true).alloc (.cells #[.int .i64 F] 2)).keep (Hgrow7.out.block w2.heap.size (by rw [World.size_alloc, HSz.out]; omega) (fun e => by have e1 : w2.heap.size = gc := Option.some.inj e; omega)))
              have hcy : intVals (feL nx k j) ++ [.int .i64 (F : Int)] = intVals (feL nx k (j + 1)) := by rw [feL_push, intVals_append, hS.out, HF.out]; rfl
              have HOc7 := hid (show OwnI w7 g7 cap7 (feL nx k (j + 1)) from (OwnI.of_row (n := j + 1) (by rw [← hcy]; exact Hown7.out) feL_len).1)
              have hg7 : wo.heap.size ≤ g7 := by
                rcases Hlie7.out with h | h
                · have e1 : gc = g7 := Option.some.inj h
                  omega
                · omega
              clear hcy
              have HB8 := hid (show Below w2.heap.size w2 w8 from HB7.out.trans (hb8.mono HB7.out.size))
              have hX8 := HX0.out.on HB8.out
              have hx8 := hX8.1
              have hy8 := hX8.2
              have hz8 := hX8.lt
              have hcE := ((Hr.out.on (bfrom HB0.out HB8.out)) E (by rw [Hn.out]; exact hEn)).1
              have hbl8 := World.block_lt_of_cell? w8 _ hcE
              have e2E : IntKind.i64.wrap (2 * (E : Int)) = 2 * (E : Int) := IntWalk.i64_in _ (by omega)
              have e3E : IntKind.i64.wrap (2 * (E : Int) + 1) = 2 * (E : Int) + 1 := IntWalk.i64_in _ (by omega)
              have HFin := hid (And.intro (HOc7.out.on hb8) (HMo7.out.on hb8))
              have HKp8 := hid (HKp7.out.call hb8)
              have hg78 : g7 < w8.heap.size := HFin.out.1.lt
              obtain ⟨U, hU⟩ : ∃ U, eA es E = U := ⟨_, rfl⟩
              rw [hU] at hcE HNq
              clear hX8 hb8 hU
              by_cases hUV : U = (V : Int)
              · have hb : (U != (V : Int)) = false := by rw [hUV]; simp
                have HT := hid (show itN nx k (j + 1) = 2 * E by rw [HStep.out, HNq.out, if_pos hUV]; omega)
                clear hUV
                go_wp2
                go_roundw
                case rel => exact ⟨j + 1, cap7, g7, 2 * E, by omega, hg7, rfl, by first | go_num | (congr 1; omega), HT, HFin, HKp8⟩
                case measure => simp [lenF]; omega
              · have hb : (U != (V : Int)) = true := by simpa using hUV
                have HT := hid (show itN nx k (j + 1) = 2 * E + 1 by rw [HStep.out, HNq.out, if_neg hUV])
                clear hUV
                go_wp2
                go_roundw
                case rel => exact ⟨j + 1, cap7, g7, 2 * E + 1, by omega, hg7, rfl, by first | go_num | (congr 1; omega), HT, HFin, HKp8⟩
                case measure => simp [lenF]; omega
            · have hpar1 : (X : Int) % 2 = 1 := by omega
              have e1p : IntKind.i64.wrap (1 - (X : Int) % 2) = 0 := by rw [hpar1]; rfl
              go_wp2_with (at_builtin; go_must (refine wpList_append_lies _ rfl (.tmp 41) (.tmp 43) 25 rfl wo.heap.size 2 j0 (.int .i64 0) 1 8 Try.underlying25 Hj.out hy0 hy1 hy2 rfl (by decide) (.slice (some ⟨gc, 0, none⟩) j cc) j _ rfl (OwnI.row HRow.out feL_len (by omega)) ⟨wi.heap.size, 0, none⟩ 1 1 [.int .i64 F] rfl rfl (World.news_of_block (cs := #[.int .i64 F]) (t := 2) (fr := (0, 0)) HNew.out) (by simp [Value.oneCell']) (by decide) (by unfold maxLen; omega) (by omega) (by rw [World.size_alloc, HSz.out]; omega) (wi.heap.size + 1) (by rw [World.size_alloc, HSz.out]) ?_); intro g7 cap7 w7 hown7 hgrow7 hlie7 hg7; have Hown7 := hid hown7; have Hgrow7 := hid hgrow7; have Hlie7 := hid hlie7; have hKp7 : Kept (fun i => i < wo.heap.size ∧ i ≠ w2.heap.size) wo w7 := ((hKp.out.set (a := ⟨w2.heap.size, X, none⟩) (fun h => h.2 rfl) (.bool true)).call (on_alloc _ (.cells #[.int .i64 F] 2))).row hgrow7 (fun r e h => by have e1 : gc = r := Option.some.inj e; have h1 := h.1; omega); have HKp7 := hid hKp7; have hB7 : Below w2.heap.size w2 w7 := hB.out.trans (hKp7.below (fun i hi => ⟨by omega, by omega⟩) (by omega)); have HB7 := hid hB7; have hX7 := HX0.out.on hB7; have hx7 := hX7.1; have hy7 := hX7.2; have hz7 := hX7.lt; have hBw7 := bfrom HB0.out hB7; have HBw7 := hid hBw7; have hcA := (Hr.out.on hBw7 F (by rw [Hn.out]; exact hFn)).1; have hcB := (Hr.out.on hBw7 F (by rw [Hn.out]; exact hFn)).2; have hbl7 := World.block_lt_of_cell? w7 _ hcA; rw [hve] at hcA; clear hcB; clear hown7 hgrow7 hlie7 hKp7 hB7 hX7 hBw7)
              go_wp2_with fail
              refine (HNxt.out _ HB7.out).mono ?_
              rintro e' w8 ⟨rfl, hb8⟩
              have HMo7 := hid (show OwnB w7 w2.heap.size m (mjF nx m k (j + 1)) by
                rw [← mjF_step HP.out hlt, hS.out]
                exact ((OwnB.set hOM.out.2 (by rw [mjF_len]; exact hXm) true).alloc (.cells #[.int .i64 F] 2)).keep (Hgrow7.out.block w2.heap.size (by rw [World.size_alloc, HSz.out]; omega) (fun e => by have e1 : w2.heap.size = gc := Option.some.inj e; omega)))
              have hcy : intVals (feL nx k j) ++ [.int .i64 (F : Int)] = intVals (feL nx k (j + 1)) := by rw [feL_push, intVals_append, hS.out, HF.out]; rfl
              have HOc7 := hid (show OwnI w7 g7 cap7 (feL nx k (j + 1)) from (OwnI.of_row (n := j + 1) (by rw [← hcy]; exact Hown7.out) feL_len).1)
              have hg7 : wo.heap.size ≤ g7 := by
                rcases Hlie7.out with h | h
                · have e1 : gc = g7 := Option.some.inj h
                  omega
                · omega
              clear hcy
              have HB8 := hid (show Below w2.heap.size w2 w8 from HB7.out.trans (hb8.mono HB7.out.size))
              have hX8 := HX0.out.on HB8.out
              have hx8 := hX8.1
              have hy8 := hX8.2
              have hz8 := hX8.lt
              have hcE := ((Hr.out.on (bfrom HB0.out HB8.out)) E (by rw [Hn.out]; exact hEn)).1
              have hbl8 := World.block_lt_of_cell? w8 _ hcE
              have e2E : IntKind.i64.wrap (2 * (E : Int)) = 2 * (E : Int) := IntWalk.i64_in _ (by omega)
              have e3E : IntKind.i64.wrap (2 * (E : Int) + 1) = 2 * (E : Int) + 1 := IntWalk.i64_in _ (by omega)
              have HFin := hid (And.intro (HOc7.out.on hb8) (HMo7.out.on hb8))
              have HKp8 := hid (HKp7.out.call hb8)
              have hg78 : g7 < w8.heap.size := HFin.out.1.lt
              obtain ⟨U, hU⟩ : ∃ U, eA es E = U := ⟨_, rfl⟩
              rw [hU] at hcE HNq
              clear hX8 hb8 hU
              by_cases hUV : U = (V : Int)
              · have hb : (U != (V : Int)) = false := by rw [hUV]; simp
                have HT := hid (show itN nx k (j + 1) = 2 * E by rw [HStep.out, HNq.out, if_pos hUV]; omega)
                clear hUV
                go_wp2
                go_roundw
                case rel => exact ⟨j + 1, cap7, g7, 2 * E, by omega, hg7, rfl, by first | go_num | (congr 1; omega), HT, HFin, HKp8⟩
                case measure => simp [lenF]; omega
              · have hb : (U != (V : Int)) = true := by simpa using hUV
                have HT := hid (show itN nx k (j + 1) = 2 * E + 1 by rw [HStep.out, HNq.out, if_neg hUV])
                clear hUV
                go_wp2
                go_roundw
                case rel => exact ⟨j + 1, cap7, g7, 2 * E + 1, by omega, hg7, rfl, by first | go_num | (congr 1; omega), HT, HFin, HKp8⟩
                case measure => simp [lenF]; omega
      · have HM9 := hid (show OwnB wr w2.heap.size m (mFL nx m (k + 1)) by rw [mFL_old HP.out hlt HA.out]; exact hC.out.1)
        go_wp2
        go_roundw
        case rel => exact ⟨k + 1, cap, q, vals, by omega, by rw [faceL_no HA.out, HK.out], by go_num, hid ⟨HM9.out, by rw [faceL_no HA.out]; exact hC.out.2⟩, hB⟩
        case measure => simp [intOf]; omega
    · obtain rfl : k = m := by omega
      go_wp2
      go_ret
      refine ⟨q, cap, vals, ?_, ?_, bfrom HB0.out hB.out⟩
      · rw [HK.out]
        rfl
      · exact hC.out.2.less (by omega)

end Go.Proofs.Ytpadnliebimceaa
