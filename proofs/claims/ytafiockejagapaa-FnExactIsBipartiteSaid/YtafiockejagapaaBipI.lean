/- IsBipartite in the program. -/
import Derived.Test.YtafiockejagapaaBipA
import Derived.Test.YtafiockejagapaaPartsJ
import Derived.Test.YtafiockejagapaaImplG
import Derived.Deep.RegionWith
import Derived.Deep.DeepCutAuto
import Derived.StillTailTactics
import Derived.BigQuiet
namespace Go.Proofs.Ytafiockejagapaa
open Go.RowKit

set_option maxRecDepth 100000 in
set_option maxHeartbeats 8000000 in
theorem iHasOne_any (N a : Nat) (b off n c : Nat) (es : List (Int × Int)) (w : World) (hn : es.length = n) (hr : ReadsE w b off es) (g : IsG N es) (ha : a < N) :
    Calls Try.prog 61 #[.agg #[.int .i64 N, .slice (some ⟨b, off, none⟩) n c], .int .i64 a] w fun e w' => e = .returned (.bool (hasOne N es a n)) ∧ Below w.heap.size w w' := by
  have hn30 : n ≤ 30 := by have := isG_len g; omega
  have hbl : b < w.heap.size := reads_lt hr (by have := g.1.1.2.2.2; have := g.1.1.1; omega)
  have HNN := hid (show 1 ≤ N ∧ N ≤ 20 by have := g.1.1.1; have := g.1.1.2.1; omega)
  have HEI := hid (endsIn_of g)
  have HNE := hid (show ∀ i, i < es.length → eA es i ≠ eB es i from fun _ hi => isG_ne g hi)
  have Hn := hid hn
  have Hr := hid hr
  obtain ⟨r, hR⟩ : ∃ r, hasOne N es a n = r := ⟨_, rfl⟩
  rw [hR]
  have HR := hid hR
  clear hn hr g hR
  go_enter Try.func61, Try.ntmps61
  have HX0 := hid (Box.new w N (some ⟨b, off, none⟩) n c 30)
  have HB0 := hid (on_alloc w (.cells #[.int .i64 N, .slice (some ⟨b, off, none⟩) n c] 30))
  go_wp2
  obtain ⟨w2, hw2⟩ : ∃ w2, w2 = w.alloc (.cells #[.int .i64 N, .slice (some ⟨b, off, none⟩) n c] 30) := ⟨_, rfl⟩
  rw [← hw2] at HX0 HB0 ⊢
  clear hw2
  have hx2 := HX0.out.1
  have hy2 := HX0.out.2
  have hz2 := HX0.out.lt
  have hs2 := HB0.out.size
  go_cut [5] (fun z wx => ∃ gf, z = .slice (some ⟨gf, 0, none⟩) N N ∧ Hid (OwnI wx gf N (farF N es (fun _ => true) a) ∧ Below w2.heap.size w2 wx))
  case first =>
    go_region_with (first
      | (go_at_call 106; refine (iNoEdge_any _).mono ?_; rintro e' w3 ⟨rfl, hb3⟩; have hc3 := ((bcells hb3).1 _ _ hz2).trans hx2; have hd3 := ((bcells hb3).1 _ _ hz2).trans hy2; have hb3' : Below w2.heap.size w2 w3 := bfrom (Below.refl _ _).drew hb3)
      | (go_at_call 56; refine (iDistAll_any N a b off n c es _ Hn.out hn30 (by have := hb3'.size; omega) (Hr.out.on (bfrom HB0.out hb3')) HEI.out HNE.out HNN.out (by omega)).mono ?_; rintro e' w4 ⟨gg, rfl, hgg, ho4, hb4⟩; have hb4' : Below w2.heap.size w2 w4 := bfrom hb3' hb4))
    all_goals
      go_wp2_with fail
      go_meet
      exact ⟨gg, rfl, hid ⟨by first | exact ho4 | exact OwnI.drewN ho4, by first | exact hb4' | exact bdn.mpr hb4'⟩⟩
  case rest =>
  obtain ⟨gf, rfl, hcb⟩ := hcut
  obtain ⟨w5, rfl⟩ : ∃ w5, w5 = wc := ⟨_, rfl⟩
  have HF := hid hcb.out.1
  have HB5 := hid (bfrom HB0.out hcb.out.2)
  have HX5 := hid (HX0.out.on hcb.out.2)
  have HFl := hid (farF_len (keep := fun _ => true) HEI.out (a := (a : Int)) (by omega))
  have hgf := HF.out.lt
  have hx5 := HX5.out.1
  have hy5 := HX5.out.2
  have hz5 := HX5.out.lt
  clear hcb hx2 hy2 hz2
  go_wp2
  go_loopw [15] (fun ee wr => ∃ k : Nat, k ≤ n ∧ ee = .int .i64 k ∧ Hid (∀ e, e < k → oneB N es a e = false) ∧ Hid (Below w5.heap.size w5 wr)) (fun ee _ => n - (intOf ee).toNat)
  case atStart => exact ⟨0, Nat.zero_le _, rfl, hid (fun e h => by omega), hid (Below.refl _ _)⟩
  case round =>
    obtain ⟨k, hk, rfl, hD, hB⟩ := hrel
    by_cases hlt : k < n
    · have hkl : k < es.length := by have := Hn.out; omega
      have HBx := hid (bfrom HB5.out hB.out)
      have hbr : b < wr.heap.size := by have := HBx.out.size; omega
      have hc1 := (Hr.out.on HBx.out k hkl).1
      have hc2 := (Hr.out.on HBx.out k hkl).2
      have hE := HEI.out k hkl
      obtain ⟨X, hX⟩ : ∃ X : Nat, eA es k = X := ⟨_, (Int.toNat_of_nonneg hE.1.1).symm⟩
      obtain ⟨Y, hY⟩ : ∃ Y : Nat, eB es k = Y := ⟨_, (Int.toNat_of_nonneg hE.2.1).symm⟩
      have hXN : X < N := by have := hE.1.2; omega
      have hYN : Y < N := by have := hE.2.2; omega
      have hXN' : (X : Int) < (N : Int) := by omega
      have hYN' : (Y : Int) < (N : Int) := by omega
      rw [hX] at hc1
      rw [hY] at hc2
      have HFr := HF.out.on hB.out
      have hd1 := HFr.reads X (by rw [HFl.out]; exact hXN)
      have hd2 := HFr.reads Y (by rw [HFl.out]; exact hYN)
      rw [Nat.zero_add] at hd1 hd2
      have hgfr := HFr.lt
      obtain ⟨x, hx⟩ : ∃ x, eI (farF N es (fun _ => true) (a : Int)) X = x := ⟨_, rfl⟩
      obtain ⟨y, hy⟩ : ∃ y, eI (farF N es (fun _ => true) (a : Int)) Y = y := ⟨_, rfl⟩
      rw [hx] at hd1
      rw [hy] at hd2
      have HOne := hid (show oneB N es a k = ((x != -1) && (x == y)) by unfold oneB farA; rw [hX, hY, Int.toNat_natCast, Int.toNat_natCast, hx, hy])
      clear hE hX hY HFr hx hy
      obtain ⟨wo, rfl⟩ : ∃ wo : World, wo = wr := ⟨_, rfl⟩
      have hgo : ∀ nq, (oneB N es a k = false) → ∃ k' : Nat, k' ≤ n ∧ (Value.int .i64 ((k : Int) + 1)) = .int .i64 k' ∧ Hid (∀ e, e < k' → oneB N es a e = false) ∧ Hid (Below w5.heap.size w5 ((wo.alloc (.cells #[.int .i64 X, .int .i64 Y] 61)).drewN nq)) := fun nq h => ⟨k + 1, by omega, by go_num, hid (fun e he => by
        rcases Nat.lt_or_ge e k with h1 | h1
        · exact hD.out e h1
        · have ek : e = k := by omega
          rw [ek]; exact h), hid (bdn.mpr (bfrom hB.out (on_alloc _ _)))⟩
      have HGo := hid hgo
      clear hgo
      by_cases h1 : x = -1
      · have t1 : (x != -1) = false := by simpa using h1
        have H1 := hid (show oneB N es a k = false by rw [HOne.out, t1]; rfl)
        clear h1
        go_wp2
        go_quiet (fail)
        go_wp2
        go_roundw
        case rel => exact HGo.out _ H1.out
        case measure => simp [intOf]; omega
      · have t1 : (x != -1) = true := by simpa using h1
        clear h1
        by_cases h2 : x = y
        · have t2 : (x == y) = true := by simpa using h2
          have H2 := hid (show oneB N es a k = true by rw [HOne.out, t1, t2]; rfl)
          clear h2
          go_wp2
          go_quiet (fail)
          go_wp2
          go_ret
          refine ⟨?_, by simp only [bdn]; exact bfrom HB5.out (bfrom hB.out (on_alloc _ _))⟩
          rw [← HR.out, hasOne_true hlt H2.out]
          rfl
        · have t2 : (x == y) = false := by simpa using h2
          have H2 := hid (show oneB N es a k = false by rw [HOne.out, t1, t2]; rfl)
          clear h2
          go_wp2
          go_quiet (fail)
          go_wp2
          go_roundw
          case rel => exact HGo.out _ H2.out
          case measure => simp [intOf]; omega
    · have hkn := hid (show k = n by omega)
      go_wp2
      go_ret
      refine ⟨?_, bfrom HB5.out hB.out⟩
      rw [← HR.out, hasOne_false (fun e he => hD.out e (by have := hkn.out; omega))]
      rfl

theorem reach_head {N : Nat} {es : List (Int × Int)} (he : EndsIn N es) {v : Nat} (hv : v < N) (hl : leadB N es v = true) : 0 < (reachU N es v N).length ∧ eI (reachU N es v N) 0 = v := by
  have h0 := reach_from he hv hl
  have h1 : reachU N es v (v + 1) = [(v : Int)] := by
    rw [reachU_yes ((reachB_iff he hv hv).2 (Conn.refl _ _)), h0]
    rfl
  have key : ∀ d, v + 1 + d ≤ N → ∃ t, reachU N es v (v + 1 + d) = (v : Int) :: t := by
    intro d
    induction d with
    | zero => intro _; exact ⟨[], h1⟩
    | succ d ih =>
      intro hd
      obtain ⟨t, ht⟩ := ih (by omega)
      cases hb : reachB N es v (v + 1 + d)
      · exact ⟨t, by rw [show v + 1 + (d + 1) = (v + 1 + d) + 1 by omega, reachU_no hb, ht]⟩
      · exact ⟨t ++ [((v + 1 + d : Nat) : Int)], by rw [show v + 1 + (d + 1) = (v + 1 + d) + 1 by omega, reachU_yes hb, ht]; rfl⟩
  obtain ⟨t, ht⟩ := key (N - (v + 1)) (by omega)
  rw [show v + 1 + (N - (v + 1)) = N by omega] at ht
  rw [ht]
  exact ⟨by simp, rfl⟩

set_option maxRecDepth 100000 in
set_option maxHeartbeats 8000000 in
theorem iBip_yes (N : Nat) (b off n c : Nat) (es : List (Int × Int)) (w : World) (hn : es.length = n) (hr : ReadsE w b off es) (g : IsG N es) :
    Calls Try.prog 21 #[.agg #[.int .i64 N, .slice (some ⟨b, off, none⟩) n c]] w fun e w' => e = .returned (.tuple #[.bool (bipB N es), .int .i64 0]) ∧ Below w.heap.size w w' := by
  have hn30 : n ≤ 30 := by have := isG_len g; omega
  have hbl : b < w.heap.size := reads_lt hr (by have := g.1.1.2.2.2; have := g.1.1.1; omega)
  have HNN := hid (show 1 ≤ N ∧ N ≤ 20 by have := g.1.1.1; have := g.1.1.2.1; omega)
  have HEI := hid (endsIn_of g)
  have HNE := hid (show ∀ i, i < es.length → eA es i ≠ eB es i from fun _ hi => isG_ne g hi)
  have Hn := hid hn
  have Hr := hid hr
  have G := hid g
  obtain ⟨r, hR⟩ : ∃ r, bipB N es = r := ⟨_, rfl⟩
  rw [hR]
  have HR := hid hR
  clear hn hr g hR
  go_enter Try.func21, Try.ntmps21
  go_wp2_with fail
  refine (iIsGraph_any _ _ _ _ es _ (by omega) Hn.out (SeesE.on (.inr ⟨b, off, rfl, Hr.out⟩) (on_alloc _ _))).mono ?_
  rw [decide_eq_true G.out]
  rintro e w2 ⟨rfl, hb2⟩
  have HB2 := hid (bfrom (w := w) (on_alloc _ _) hb2)
  have HX2 := hid ((Box.new w N (some ⟨b, off, none⟩) n c 30).on hb2)
  have hx2 := HX2.out.1
  have hy2' := HX2.out.2
  have hz2 := HX2.out.lt
  have hs2 := HB2.out.size
  clear hb2
  go_wp2_with fail
  refine (iParts_any N b off n c es _ Hn.out hn30 (by omega) (Hr.out.on HB2.out) HEI.out HNE.out HNN.out).mono ?_
  rintro e w4 ⟨q, cap, vals, rfl, hP, hb4⟩
  have HB4 := hid (bfrom HB2.out hb4)
  have HX4 := hid (HX2.out.on hb4)
  have HS := hid hP.fresh.sees
  have hK : numP N es ≤ 20 := by have h := leadU_len N es N; unfold numP; have := HNN.out; omega
  have HLen := hid (partsL_len N es)
  clear hP hb4 hx2 hy2' hz2
  obtain ⟨K, hKe⟩ : ∃ K, numP N es = K := ⟨_, rfl⟩
  rw [hKe] at hK ⊢
  have HK := hid (show (leadU N es N).length = K from hKe)
  clear hKe
  go_wp2
  go_loopw [12] (fun ee wr => ∃ k : Nat, k ≤ K ∧ ee = .int .i64 k ∧ Hid (∀ i, i < k → hasOne N es ((leadU N es N).getD i 0) n = false) ∧ Hid (Below w4.heap.size w4 wr)) (fun ee _ => K - (intOf ee).toNat)
  case atStart => exact ⟨0, Nat.zero_le _, rfl, hid (fun i h => by omega), hid (Below.refl _ _)⟩
  case round =>
    obtain ⟨k, hk, rfl, hD, hB⟩ := hrel
    by_cases hlt : k < K
    · have HXr := hid (HX4.out.on hB.out)
      have hxr := HXr.out.1
      have hyr := HXr.out.2
      have hzr := HXr.out.lt
      have hlu : k < (leadU N es N).length := by rw [HK.out]; exact hlt
      have HSr := HS.out.on hB.out
      obtain ⟨qb, qo, rfl, hrd⟩ : ∃ qb qo, q = some ⟨qb, qo, none⟩ ∧ ReadsL wr qb qo (partsL N es) := by
        rcases HSr with h | h
        · have h2 := HLen.out; rw [h] at h2; simp at h2; omega
        · exact h
      obtain ⟨qi, ci, hci, hsi⟩ := hrd k (by rw [HLen.out]; exact hlu)
      rw [lI_parts hlu] at hci hsi
      obtain ⟨v, hv⟩ : ∃ v, (leadU N es N).getD k 0 = v := ⟨_, rfl⟩
      rw [hv] at hci hsi
      have hvm : v ∈ leadU N es N := by rw [← hv, List.getD_eq_getElem?_getD, List.getElem?_eq_getElem hlu]; exact List.getElem_mem hlu
      obtain ⟨hvN, hvl⟩ := leadU_mem.1 hvm
      obtain ⟨hl0, hh0⟩ := reach_head HEI.out hvN hvl
      obtain ⟨sb, so, rfl, hrs⟩ : ∃ sb so, qi = some ⟨sb, so, none⟩ ∧ ReadsI wr sb so (reachU N es v N) := by
        rcases hsi with h | h
        · rw [h] at hl0; simp at hl0
        · exact h
      have hc0 := hrs 0 hl0
      rw [hh0, Nat.add_zero] at hc0
      have hsb := hrs.lt hl0
      have hqb := World.block_lt_of_cell? wr _ hci
      obtain ⟨l, hl⟩ : ∃ l, (reachU N es v N).length = l := ⟨_, rfl⟩
      rw [hl] at hl0 hci
      have hl0' : (0 : Int) < (l : Int) := by omega
      have HV := hid hv
      have HVM := hid hvm
      have hKk : (k : Int) < (K : Int) := by omega
      obtain ⟨z, hz⟩ : ∃ z, hasOne N es v n = z := ⟨_, rfl⟩
      have HZ := hid hz
      clear hrd hsi hrs hv hvm hvl hh0 hl hz HSr
      obtain ⟨wo, rfl⟩ : ∃ wo : World, wo = wr := ⟨_, rfl⟩
      have HBx := hid (bfrom HB4.out hB.out)
      go_wp2
      go_still_tail 4, (by kernel_rfl)
      go_wp2_with fail
      refine (iHasOne_any N v b off n c es _ Hn.out (Hr.out.on (bfrom HBx.out (Below.refl _ _).drew)) G.out hvN).mono ?_
      rw [HZ.out]
      rintro e' w6 ⟨rfl, hb6⟩
      have HB6 := hid (show Below w4.heap.size w4 w6 from bfrom (bfrom hB.out (Below.refl _ _).drew) hb6)
      clear hb6
      cases z
      · go_wp2
        go_roundw
        case rel =>
          refine ⟨k + 1, by omega, by go_num, hid (fun i hi => ?_), HB6⟩
          rcases Nat.lt_or_ge i k with h | h
          · exact hD.out i h
          · have ei : i = k := by omega
            rw [ei, HV.out]
            exact HZ.out
        case measure => simp [intOf]; omega
      · go_wp2
        go_ret2
        refine ⟨?_, bfrom HB4.out HB6.out⟩
        rw [← HR.out, bip_false HVM.out (by rw [Hn.out]; exact HZ.out)]
        rfl
    · have hkn := hid (show k = K by omega)
      go_wp2
      go_ret2
      refine ⟨?_, bfrom HB4.out hB.out⟩
      rw [← HR.out, bip_true (fun v hv => by
        obtain ⟨i, hi, e1⟩ := List.getElem_of_mem hv
        have h := hD.out i (by have := HK.out; have := hkn.out; omega)
        rw [List.getD_eq_getElem?_getD, List.getElem?_eq_getElem hi, Option.getD_some, e1] at h
        rw [Hn.out]; exact h)]
      rfl

set_option maxRecDepth 100000 in
set_option maxHeartbeats 2000000 in
theorem iBip_no (s : Int) (p : Option Addr) (n c : Nat) (es : List (Int × Int)) (w : World) (hm : n ≤ 1048576) (hn : es.length = n) (hr : SeesE w p es) (g : ¬ IsG s es) :
    Calls Try.prog 21 #[.agg #[.int .i64 s, .slice p n c]] w fun e w' => e = .returned (.tuple #[.bool false, .int .i64 1]) ∧ Below w.heap.size w w' := by
  have Hn := hid hn
  have Hr := hid hr
  have G := hid g
  have hm9 : n ≤ 9223372036854775807 := by omega
  clear hn hr g
  go_enter Try.func21, Try.ntmps21
  go_wp2_with fail
  refine (iIsGraph_any _ _ _ _ es _ hm Hn.out (Hr.out.on (on_alloc _ _))).mono ?_
  rw [decide_eq_false G.out]
  rintro e w2 ⟨rfl, hb2⟩
  have hB2 := bfrom (w := w) (by go_grown) hb2
  go_wp2
  go_ret2
  exact ⟨rfl, hB2⟩

theorem iIsBipartite_any (s : Int) (p : Option Addr) (n c : Nat) (es : List (Int × Int)) (w : World) (hm : n ≤ 1048576) (hn : es.length = n) (hr : SeesE w p es) :
    Calls Try.prog 21 #[.agg #[.int .i64 s, .slice p n c]] w fun e w' => e = .returned (.tuple #[.bool (fIsBipartite s es).1, .int .i64 (fIsBipartite s es).2]) ∧ Below w.heap.size w w' := by
  unfold fIsBipartite
  by_cases g : IsG s es
  · rw [if_pos g]
    obtain ⟨N, rfl⟩ : ∃ N : Nat, s = N := ⟨_, (Int.toNat_of_nonneg (by have := g.1.1.1; omega)).symm⟩
    rw [Int.toNat_natCast]
    obtain ⟨b, off, rfl, rd⟩ := isG_sees g hr
    exact iBip_yes N b off n c es w hn rd g
  · rw [if_neg g]
    exact iBip_no s p n c es w hm hn hr g

end Go.Proofs.Ytafiockejagapaa
