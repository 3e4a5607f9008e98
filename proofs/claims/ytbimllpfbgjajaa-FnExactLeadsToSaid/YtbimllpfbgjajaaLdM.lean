/- LeadsTo in the model. -/
import Derived.Test.YtbimllpfbgjajaaLdS
import Derived.Test.YtbimllpfbgjajaaTenS
import Derived.Deep.RegionHeld3
import Derived.Deep.RegionWith
import Derived.Deep.DeepCutAuto
namespace Go.Proofs.Ytbimllpfbgjajaa
open Go.RowKit

attribute [local go_sem] Oper.semAt_some

theorem MatAt.on {W W' : World} {B n b0 : Nat} {gs cs : Nat → Nat} {M : Nat → Nat → Int} (h : MatAt W B n b0 gs cs M) (hb : Below W.heap.size W W') : MatAt W' B n b0 gs cs M :=
  ⟨fun i hi => by
    have h1 := h.out i hi
    rw [(bcells hb).1 _ _ (World.block_lt_of_cell? W _ h1)]
    exact h1, fun i hi => (h.row i hi).on hb, h.far, h.one⟩
theorem RowsAt.on {W W' : World} {B N : Nat} {es : List (Int × Int)} {v : Value} (h : RowsAt B W N es v) (hb : Below W.heap.size W W') : RowsAt B W' N es v := by
  obtain ⟨gq, cap, gf, cf, h1, h2, h3⟩ := h
  exact ⟨gq, cap, gf, cf, h1, h2, h3.on hb⟩
theorem RowsAt.less {W : World} {B B' N : Nat} {es : List (Int × Int)} {v : Value} (h : RowsAt B W N es v) (hb : B' ≤ B) : RowsAt B' W N es v := by
  obtain ⟨gq, cap, gf, cf, h1, h2, h3⟩ := h
  exact ⟨gq, cap, gf, cf, h1, by omega, ⟨h3.out, h3.row, fun i hi => ⟨by have := (h3.far i hi).1; omega, (h3.far i hi).2⟩, h3.one⟩⟩

def leadP (N : Nat) (es fs : List (Int × Int)) (ps : List Int) : Prop := ∀ v, v < N → ∀ w, w < v → adjC es (v : Int) (w : Int) = adjC fs (eI ps v) (eI ps w)
instance (N : Nat) (es fs : List (Int × Int)) (ps : List Int) : Decidable (leadP N es fs ps) := by unfold leadP; infer_instance
def fLeadsTo (s : Int) (es : List (Int × Int)) (t : Int) (fs : List (Int × Int)) (ps : List Int) : Bool × Int :=
  if IsG s es ∧ IsG t fs then (if s = t ∧ eachF s ps then (decide (sortE (renE ps es) = fs), 0) else (false, 2)) else (false, 1)

set_option maxRecDepth 100000 in
set_option maxHeartbeats 32000000 in
theorem sLeads_yes (N : Nat) (b off n c b2 o2 n2 c2 pb po d : Nat) (es fs : List (Int × Int)) (ps : List Int) (w : World) (h1 : es.length = n) (r1 : ReadsE w b off es) (g1 : IsG N es) (h2 : fs.length = n2) (r2 : ReadsE w b2 o2 fs) (g2 : IsG N fs) (h3 : ps.length = N) (r3 : ReadsI w pb po ps) (g3 : eachF (N : Int) ps) :
    Calls Try.prog 28 #[.agg #[.int .i64 N, .slice (some ⟨b, off, none⟩) n c], .agg #[.int .i64 N, .slice (some ⟨b2, o2, none⟩) n2 c2], .slice (some ⟨pb, po, none⟩) N d] w fun e' w' => e' = .returned (.tuple #[.bool (decide (leadP N es fs ps)), .int .i64 0]) ∧ Below w.heap.size w w' := by
  have hN20 : N ≤ 20 := by have := g1.1.1.2.1; omega
  have hN2 : 2 ≤ N := by have := g1.1.1.1; omega
  have hn30 : n ≤ 30 := by have := isG_len g1; omega
  have hm30 : n2 ≤ 30 := by have := isG_len g2; omega
  have H1 := hid h1
  have R1 := hid r1
  have G1 := hid g1
  have H2 := hid h2
  have R2 := hid r2
  have G2 := hid g2
  have H3 := hid h3
  have R3 := hid r3
  have G3 := hid g3
  have hpb := r3.lt (by omega)
  obtain ⟨r, hR⟩ : ∃ r : Bool, decide (leadP N es fs ps) = r := ⟨_, rfl⟩
  rw [hR]
  have HR := hid hR
  have q1 : ((N : Int) != (N : Int)) = false := by simp
  clear h1 r1 g1 h2 r2 g2 h3 r3 g3 hR
  go_enter Try.func28, Try.ntmps28
  go_wp2_with fail
  have HX0 := hid (((Box.new w N (some ⟨b, off, none⟩) n c 30).on (on_alloc _ (.cells #[.int .i64 (N : Int), .slice (some ⟨b2, o2, none⟩) n2 c2] 30))))
  have HY0 := hid (show Box ((w.alloc (.cells #[.int .i64 (N : Int), .slice (some ⟨b, off, none⟩) n c] 30)).alloc (.cells #[.int .i64 (N : Int), .slice (some ⟨b2, o2, none⟩) n2 c2] 30)) (w.heap.size + 1) N (some ⟨b2, o2, none⟩) n2 c2 from by
    have h := Box.new (w.alloc (.cells #[.int .i64 (N : Int), .slice (some ⟨b, off, none⟩) n c] 30)) N (some ⟨b2, o2, none⟩) n2 c2 30
    simpa only [World.size_alloc] using h)
  have HB0 := hid (bfrom (on_alloc w (.cells #[.int .i64 (N : Int), .slice (some ⟨b, off, none⟩) n c] 30)) (on_alloc _ (.cells #[.int .i64 (N : Int), .slice (some ⟨b2, o2, none⟩) n2 c2] 30)))
  refine (sIs_any _ _ _ _ es _ (by omega) H1.out (.inr ⟨b, off, rfl, R1.out.on HB0.out⟩)).mono ?_
  rw [decide_eq_true G1.out]
  rintro e w2 ⟨rfl, hb2⟩
  have HX2 := hid (HX0.out.on hb2)
  have HY2 := hid (HY0.out.on hb2)
  have HB2 := hid (bfrom HB0.out hb2)
  clear hb2 HX0 HY0 HB0
  have hy1 := HY2.out.1
  have hy2 := HY2.out.2
  have hyz := HY2.out.lt
  go_wp2_with fail
  refine (sIs_any _ _ _ _ fs _ (by omega) H2.out (.inr ⟨b2, o2, rfl, R2.out.on HB2.out⟩)).mono ?_
  rw [decide_eq_true G2.out]
  rintro e w3 ⟨rfl, hb3⟩
  have HX3 := hid (HX2.out.on hb3)
  have HY3 := hid (HY2.out.on hb3)
  have HB3 := hid (bfrom HB2.out hb3)
  clear hb3 HX2 HY2 HB2 hy1 hy2 hyz
  have hx1 := HX3.out.1
  have hx2 := HX3.out.2
  have hxz := HX3.out.lt
  have hy1 := HY3.out.1
  have hy2 := HY3.out.2
  have hyz := HY3.out.lt
  go_wp2_with fail
  refine (sTen_any _ _ _ _ ps _ (by omega) (by omega) H3.out (.inr ⟨pb, po, rfl, R3.out.on HB3.out⟩)).mono ?_
  rw [decide_eq_true G3.out]
  rintro e w4 ⟨rfl, hb4⟩
  have HX4 := hid (HX3.out.on hb4)
  have HY4 := hid (HY3.out.on hb4)
  have HB4 := hid (bfrom HB3.out hb4)
  clear hb4 HX3 HY3 HB3 hx1 hx2 hxz hy1 hy2 hyz
  have hx1 := HX4.out.1
  have hx2 := HX4.out.2
  have hxz := HX4.out.lt
  have hy1 := HY4.out.1
  have hy2 := HY4.out.2
  have hyz := HY4.out.lt
  go_upto_region 5 with fail
  go_cut [8, 9] (fun z y wx => Hid (RowsAt w.heap.size wx N es z ∧ RowsAt w.heap.size wx N fs y) ∧ Hid (Below w4.heap.size w4 wx))
  case first =>
    go_region_held3 (fun w' => (w'.cell? ⟨w.heap.size, 0, none⟩ = some (.int .i64 N) ∧ w'.cell? ⟨w.heap.size, 1, none⟩ = some (.slice (some ⟨b, off, none⟩) n c)) ∧ (w'.cell? ⟨w.heap.size + 1, 0, none⟩ = some (.int .i64 N) ∧ w'.cell? ⟨w.heap.size + 1, 1, none⟩ = some (.slice (some ⟨b2, o2, none⟩) n2 c2)))
      (go_keep)
      (first
        | (go_at_call_of 64 (Value.slice (some ⟨b, off, none⟩) n c); refine (sRows_any N b off n c es _ H1.out ?_ G1.out).mono ?_; (exact (R1.out.on HB4.out).on (by have := Below.refl w4.heap.size w4; go_grown)); rintro e' wa ⟨va, rfl, hfa, hba⟩; have hBA : Below w4.heap.size w4 wa := bfrom (by have := Below.refl w4.heap.size w4; go_grown) hba; obtain ⟨ha1, ha2⟩ := HX4.out.on hBA; obtain ⟨ha3, ha4⟩ := HY4.out.on hBA)
        | (go_at_call_of 64 (Value.slice (some ⟨b2, o2, none⟩) n2 c2); refine (sRows_any N b2 o2 n2 c2 fs _ H2.out ?_ G2.out).mono ?_; (exact (R2.out.on HB4.out).on (by have := Below.refl w4.heap.size w4; go_grown)); rintro e' wb ⟨vb, rfl, hfb, hbb⟩; have hBB : Below w4.heap.size w4 wb := bfrom (by have := Below.refl w4.heap.size w4; go_grown) hbb; obtain ⟨hb1, hb2⟩ := HX4.out.on hBB; obtain ⟨hb3, hb4⟩ := HY4.out.on hBB))
    all_goals
      go_wp2_with fail
      go_meet
      first
        | exact ⟨hid ⟨(hfa.on hbb).less (by have := HB4.out.size; have := hBA.size; simp at *; omega), hfb.less (by have := HB4.out.size; have := hBA.size; have := hBB.size; simp at *; omega)⟩, hid hBB⟩
        | exact ⟨hid ⟨hfa.less (by have := HB4.out.size; have := hBA.size; have := hBB.size; simp at *; omega), (hfb.on hba).less (by have := HB4.out.size; have := hBA.size; simp at *; omega)⟩, hid hBA⟩
  case rest =>
  obtain ⟨hmm, hcb⟩ := hcut
  obtain ⟨w5, rfl⟩ : ∃ w5, w5 = wc := ⟨_, rfl⟩
  have HB5 := hid (bfrom HB4.out hcb.out)
  obtain ⟨⟨gq, cq, gf, cf, rfl, hgq, hM1⟩, ⟨gp, cp, gg, cg, rfl, hgp, hM2⟩⟩ := hmm.out
  have HM1 := hid hM1
  have HM2 := hid hM2
  have r3 := R3.out.on HB5.out
  have R35 := hid r3
  have hp5 : pb < w5.heap.size := by have := HB5.out.size; omega
  clear hcb hmm hM1 hM2 hx1 hx2 hxz hy1 hy2 hyz r3
  go_wp2
  go_loopw [10] (fun v wr => ∃ i : Nat, i ≤ N ∧ v = .int .i64 i ∧ Hid (∀ v, v < i → ∀ w, w < v → adjC es (v : Int) (w : Int) = adjC fs (eI ps v) (eI ps w)) ∧ Hid (wr.heap = w5.heap) ∧ Hid (Below w.heap.size w wr)) (fun v _ => N - (intOf v).toNat)
  case atStart => exact ⟨0, Nat.zero_le _, rfl, hid (fun v hv => absurd hv (by omega)), hid rfl, HB5⟩
  case round =>
    obtain ⟨i, hi, rfl, hA, hW, hB⟩ := hrel
    by_cases hlt : i < N
    · have hlt' : (i : Int) < (N : Int) := by omega
      obtain ⟨wk, rfl⟩ : ∃ wk : World, wk = wr := ⟨_, rfl⟩
      go_wp2
      go_loopw [11] (fun v wr => ∃ j : Nat, j ≤ i ∧ v = .int .i64 j ∧ Hid (∀ w, w < j → adjC es (i : Int) (w : Int) = adjC fs (eI ps i) (eI ps w)) ∧ Hid (wr.heap = w5.heap) ∧ Hid (Below w.heap.size w wr)) (fun v _ => i - (intOf v).toNat)
      case atStart => exact ⟨0, Nat.zero_le _, rfl, hid (fun v hv => absurd hv (by omega)), hW, hB⟩
      case round =>
        clear hW hB
        obtain ⟨j, hj, rfl, hC, hW, hB⟩ := hrel
        by_cases hlj : j < i
        · have hlj' : (j : Int) < (i : Int) := by omega
          have hjN : j < N := by omega
          have hc1 := R35.out i (by rw [H3.out]; exact hlt)
          have hc2 := R35.out j (by rw [H3.out]; exact hjN)
          obtain ⟨V, hV⟩ : ∃ V : Nat, eI ps i = V := ⟨_, (Int.toNat_of_nonneg (G3.out.2.1 i (by rw [H3.out]; exact hlt)).1).symm⟩
          obtain ⟨U, hU⟩ : ∃ U : Nat, eI ps j = U := ⟨_, (Int.toNat_of_nonneg (G3.out.2.1 j (by rw [H3.out]; exact hjN)).1).symm⟩
          have hVN : V < N := by have := (G3.out.2.1 i (by rw [H3.out]; exact hlt)).2; omega
          have hUN : U < N := by have := (G3.out.2.1 j (by rw [H3.out]; exact hjN)).2; omega
          have hVN' : (V : Int) < (N : Int) := by omega
          have hUN' : (U : Int) < (N : Int) := by omega
          have hjN' : (j : Int) < (N : Int) := by omega
          rw [hV] at hc1
          rw [hU] at hc2
          have hm1 := HM1.out.same hW.out
          have hm2 := HM2.out.same hW.out
          have hd1 := hm1.out i hlt
          have hd2 := hm1.cell hlt hjN
          have hd3 := hm2.out V hVN
          have hd4 := hm2.cell hVN hUN
          have hd0 : wr.cell? ⟨pb, po + i, none⟩ = some (.int .i64 V) := by rw [← hc1]; unfold World.cell?; rw [hW.out]
          have hd9 : wr.cell? ⟨pb, po + j, none⟩ = some (.int .i64 U) := by rw [← hc2]; unfold World.cell?; rw [hW.out]
          obtain ⟨x, hx⟩ : ∃ x, adjC es (i : Int) (j : Int) = x := ⟨_, rfl⟩
          obtain ⟨y, hy⟩ : ∃ y, adjC fs (V : Int) (U : Int) = y := ⟨_, rfl⟩
          rw [hx] at hd2
          rw [hy] at hd4
          have HXY := hid (And.intro hx (And.intro hy (And.intro hV hU)))
          clear hc1 hc2 hm1 hm2 hx hy hV hU
          obtain ⟨wj, rfl⟩ : ∃ wj : World, wj = wr := ⟨_, rfl⟩
          by_cases hxy : x = y
          · have e0 : ((x : Int) != (y : Int)) = false := by simp only [bne_eq_false_iff_eq]; omega
            have HE := hid hxy
            clear hxy
            go_wp2
            go_region
            go_wp2
            go_roundw
            case rel =>
              refine ⟨j + 1, by omega, by go_num, hid (fun w hw => ?_), hid (by first | exact hW.out | exact (show wj.drew.heap = w5.heap from hW.out)), hid (by first | exact hB.out | exact hB.out.drew | exact bdn.mpr hB.out)⟩
              by_cases e : w = j
              · subst e
                rw [HXY.out.2.2.1, HXY.out.2.2.2, HXY.out.1, HXY.out.2.1]
                exact HE.out
              · exact hC.out w (by omega)
            case measure => simp [intOf]; omega
          · have e0 : ((x : Int) != (y : Int)) = true := by simp only [bne_iff_ne, ne_eq]; omega
            have HE := hid hxy
            clear hxy
            go_wp2
            go_region
            go_wp2
            go_ret2
            refine ⟨?_, by first | exact hB.out | exact hB.out.drew | exact bdn.mpr hB.out⟩
            rw [← HR.out, decide_eq_false (fun h => HE.out (by have := h i hlt j hlj; rw [HXY.out.2.2.1, HXY.out.2.2.2, HXY.out.1, HXY.out.2.1] at this; exact this))]
            rfl
        · obtain rfl : j = i := by omega
          obtain ⟨wj, rfl⟩ : ∃ wj : World, wj = wr := ⟨_, rfl⟩
          go_wp2
          go_roundw
          case rel =>
            refine ⟨j + 1, by omega, by go_num, hid (fun v hv w hw => ?_), hW, hB⟩
            by_cases e : v = j
            · subst e
              exact hC.out w hw
            · exact hA.out v (by omega) w hw
          case measure => simp [intOf]; omega
    · obtain rfl : i = N := by omega
      go_wp2
      go_ret2
      refine ⟨?_, hB.out⟩
      rw [← HR.out, decide_eq_true (show leadP i es fs ps from hA.out)]
      rfl

set_option maxRecDepth 100000 in
set_option maxHeartbeats 8000000 in
theorem sLeads_one (s t : Int) (p p2 q : Option Addr) (n c n2 c2 m d : Nat) (es fs : List (Int × Int)) (ps : List Int) (w : World) (m1 : n ≤ 1048576) (h1 : es.length = n) (r1 : SeesE w p es) (_m2 : n2 ≤ 1048576) (h2 : fs.length = n2) (r2 : SeesE w p2 fs) (_m3 : m ≤ 1048576) (h3 : ps.length = m) (r3 : SeesI w q ps) (g : ¬ IsG s es) :
    Calls Try.prog 28 #[.agg #[.int .i64 s, .slice p n c], .agg #[.int .i64 t, .slice p2 n2 c2], .slice q m d] w fun e' w' => e' = .returned (.tuple #[.bool false, .int .i64 1]) ∧ Below w.heap.size w w' := by
  have H1 := hid h1
  have R1 := hid r1
  have H2 := hid h2
  have R2 := hid r2
  have H3 := hid h3
  have R3 := hid r3
  have G := hid g
  clear g
  clear h1 r1 h2 r2 h3 r3
  go_enter Try.func28, Try.ntmps28
  go_wp2_with fail
  have HX0 := hid (((Box.new w s p n c 30).on (on_alloc _ (.cells #[.int .i64 t, .slice p2 n2 c2] 30))))
  have HY0 := hid (show Box ((w.alloc (.cells #[.int .i64 s, .slice p n c] 30)).alloc (.cells #[.int .i64 t, .slice p2 n2 c2] 30)) (w.heap.size + 1) t p2 n2 c2 from by
    have h := Box.new (w.alloc (.cells #[.int .i64 s, .slice p n c] 30)) t p2 n2 c2 30
    simpa only [World.size_alloc] using h)
  have HB0 := hid (bfrom (on_alloc w (.cells #[.int .i64 s, .slice p n c] 30)) (on_alloc _ (.cells #[.int .i64 t, .slice p2 n2 c2] 30)))
  refine (sIs_any _ _ _ _ es _ (by omega) H1.out (R1.out.on HB0.out)).mono ?_
  rw [decide_eq_false G.out]
  rintro e w2 ⟨rfl, hb2⟩
  have HX2 := hid (HX0.out.on hb2)
  have HY2 := hid (HY0.out.on hb2)
  have HB2 := hid (bfrom HB0.out hb2)
  clear hb2 HX0 HY0 HB0
  have hx1 := HX2.out.1
  have hx2 := HX2.out.2
  have hxz := HX2.out.lt
  have hy1 := HY2.out.1
  have hy2 := HY2.out.2
  have hyz := HY2.out.lt
  go_wp2
  go_ret2
  exact ⟨rfl, HB2.out⟩

set_option maxRecDepth 100000 in
set_option maxHeartbeats 8000000 in
theorem sLeads_two (s t : Int) (p p2 q : Option Addr) (n c n2 c2 m d : Nat) (es fs : List (Int × Int)) (ps : List Int) (w : World) (m1 : n ≤ 1048576) (h1 : es.length = n) (r1 : SeesE w p es) (m2 : n2 ≤ 1048576) (h2 : fs.length = n2) (r2 : SeesE w p2 fs) (_m3 : m ≤ 1048576) (h3 : ps.length = m) (r3 : SeesI w q ps) (g : IsG s es) (k : ¬ IsG t fs) :
    Calls Try.prog 28 #[.agg #[.int .i64 s, .slice p n c], .agg #[.int .i64 t, .slice p2 n2 c2], .slice q m d] w fun e' w' => e' = .returned (.tuple #[.bool false, .int .i64 1]) ∧ Below w.heap.size w w' := by
  have H1 := hid h1
  have R1 := hid r1
  have H2 := hid h2
  have R2 := hid r2
  have H3 := hid h3
  have R3 := hid r3
  have G := hid g
  have K := hid k
  clear g k
  clear h1 r1 h2 r2 h3 r3
  go_enter Try.func28, Try.ntmps28
  go_wp2_with fail
  have HX0 := hid (((Box.new w s p n c 30).on (on_alloc _ (.cells #[.int .i64 t, .slice p2 n2 c2] 30))))
  have HY0 := hid (show Box ((w.alloc (.cells #[.int .i64 s, .slice p n c] 30)).alloc (.cells #[.int .i64 t, .slice p2 n2 c2] 30)) (w.heap.size + 1) t p2 n2 c2 from by
    have h := Box.new (w.alloc (.cells #[.int .i64 s, .slice p n c] 30)) t p2 n2 c2 30
    simpa only [World.size_alloc] using h)
  have HB0 := hid (bfrom (on_alloc w (.cells #[.int .i64 s, .slice p n c] 30)) (on_alloc _ (.cells #[.int .i64 t, .slice p2 n2 c2] 30)))
  refine (sIs_any _ _ _ _ es _ (by omega) H1.out (R1.out.on HB0.out)).mono ?_
  rw [decide_eq_true G.out]
  rintro e w2 ⟨rfl, hb2⟩
  have HX2 := hid (HX0.out.on hb2)
  have HY2 := hid (HY0.out.on hb2)
  have HB2 := hid (bfrom HB0.out hb2)
  clear hb2 HX0 HY0 HB0
  have hx1 := HX2.out.1
  have hx2 := HX2.out.2
  have hxz := HX2.out.lt
  have hy1 := HY2.out.1
  have hy2 := HY2.out.2
  have hyz := HY2.out.lt
  go_wp2_with fail
  refine (sIs_any _ _ _ _ fs _ (by omega) H2.out (R2.out.on HB2.out)).mono ?_
  rw [decide_eq_false K.out]
  rintro e w3 ⟨rfl, hb3⟩
  have HX3 := hid (HX2.out.on hb3)
  have HY3 := hid (HY2.out.on hb3)
  have HB3 := hid (bfrom HB2.out hb3)
  clear hb3 HX2 HY2 HB2 hx1 hx2 hxz hy1 hy2 hyz
  have hx1 := HX3.out.1
  have hx2 := HX3.out.2
  have hxz := HX3.out.lt
  have hy1 := HY3.out.1
  have hy2 := HY3.out.2
  have hyz := HY3.out.lt
  go_wp2
  go_ret2
  exact ⟨rfl, HB3.out⟩

set_option maxRecDepth 100000 in
set_option maxHeartbeats 8000000 in
theorem sLeads_size (s t : Int) (p p2 q : Option Addr) (n c n2 c2 m d : Nat) (es fs : List (Int × Int)) (ps : List Int) (w : World) (m1 : n ≤ 1048576) (h1 : es.length = n) (r1 : SeesE w p es) (m2 : n2 ≤ 1048576) (h2 : fs.length = n2) (r2 : SeesE w p2 fs) (_m3 : m ≤ 1048576) (h3 : ps.length = m) (r3 : SeesI w q ps) (g : IsG s es) (k : IsG t fs) (l : s ≠ t) :
    Calls Try.prog 28 #[.agg #[.int .i64 s, .slice p n c], .agg #[.int .i64 t, .slice p2 n2 c2], .slice q m d] w fun e' w' => e' = .returned (.tuple #[.bool false, .int .i64 2]) ∧ Below w.heap.size w w' := by
  have H1 := hid h1
  have R1 := hid r1
  have H2 := hid h2
  have R2 := hid r2
  have H3 := hid h3
  have R3 := hid r3
  have G := hid g
  have K := hid k
  have q1 : (s != t) = true := by simpa using l
  clear g k l
  clear h1 r1 h2 r2 h3 r3
  go_enter Try.func28, Try.ntmps28
  go_wp2_with fail
  have HX0 := hid (((Box.new w s p n c 30).on (on_alloc _ (.cells #[.int .i64 t, .slice p2 n2 c2] 30))))
  have HY0 := hid (show Box ((w.alloc (.cells #[.int .i64 s, .slice p n c] 30)).alloc (.cells #[.int .i64 t, .slice p2 n2 c2] 30)) (w.heap.size + 1) t p2 n2 c2 from by
    have h := Box.new (w.alloc (.cells #[.int .i64 s, .slice p n c] 30)) t p2 n2 c2 30
    simpa only [World.size_alloc] using h)
  have HB0 := hid (bfrom (on_alloc w (.cells #[.int .i64 s, .slice p n c] 30)) (on_alloc _ (.cells #[.int .i64 t, .slice p2 n2 c2] 30)))
  refine (sIs_any _ _ _ _ es _ (by omega) H1.out (R1.out.on HB0.out)).mono ?_
  rw [decide_eq_true G.out]
  rintro e w2 ⟨rfl, hb2⟩
  have HX2 := hid (HX0.out.on hb2)
  have HY2 := hid (HY0.out.on hb2)
  have HB2 := hid (bfrom HB0.out hb2)
  clear hb2 HX0 HY0 HB0
  have hx1 := HX2.out.1
  have hx2 := HX2.out.2
  have hxz := HX2.out.lt
  have hy1 := HY2.out.1
  have hy2 := HY2.out.2
  have hyz := HY2.out.lt
  go_wp2_with fail
  refine (sIs_any _ _ _ _ fs _ (by omega) H2.out (R2.out.on HB2.out)).mono ?_
  rw [decide_eq_true K.out]
  rintro e w3 ⟨rfl, hb3⟩
  have HX3 := hid (HX2.out.on hb3)
  have HY3 := hid (HY2.out.on hb3)
  have HB3 := hid (bfrom HB2.out hb3)
  clear hb3 HX2 HY2 HB2 hx1 hx2 hxz hy1 hy2 hyz
  have hx1 := HX3.out.1
  have hx2 := HX3.out.2
  have hxz := HX3.out.lt
  have hy1 := HY3.out.1
  have hy2 := HY3.out.2
  have hyz := HY3.out.lt
  go_wp2
  go_ret2
  exact ⟨rfl, HB3.out⟩

set_option maxRecDepth 100000 in
set_option maxHeartbeats 8000000 in
theorem sLeads_each (s t : Int) (p p2 q : Option Addr) (n c n2 c2 m d : Nat) (es fs : List (Int × Int)) (ps : List Int) (w : World) (m1 : n ≤ 1048576) (h1 : es.length = n) (r1 : SeesE w p es) (m2 : n2 ≤ 1048576) (h2 : fs.length = n2) (r2 : SeesE w p2 fs) (_m3 : m ≤ 1048576) (h3 : ps.length = m) (r3 : SeesI w q ps) (g : IsG s es) (k : IsG t fs) (l : s = t) (e : ¬ eachF s ps) :
    Calls Try.prog 28 #[.agg #[.int .i64 s, .slice p n c], .agg #[.int .i64 t, .slice p2 n2 c2], .slice q m d] w fun e' w' => e' = .returned (.tuple #[.bool false, .int .i64 2]) ∧ Below w.heap.size w w' := by
  have H1 := hid h1
  have R1 := hid r1
  have H2 := hid h2
  have R2 := hid r2
  have H3 := hid h3
  have R3 := hid r3
  have G := hid g
  have K := hid k
  have L := hid e
  have q1 : (s != t) = false := by simpa using l
  have g5 : 1 ≤ s ∧ s ≤ 20 := by have := g.1.1.1; have := g.1.1.2.1; omega
  obtain ⟨g6, g7⟩ := g5
  clear g k l e
  clear h1 r1 h2 r2 h3 r3
  go_enter Try.func28, Try.ntmps28
  go_wp2_with fail
  have HX0 := hid (((Box.new w s p n c 30).on (on_alloc _ (.cells #[.int .i64 t, .slice p2 n2 c2] 30))))
  have HY0 := hid (show Box ((w.alloc (.cells #[.int .i64 s, .slice p n c] 30)).alloc (.cells #[.int .i64 t, .slice p2 n2 c2] 30)) (w.heap.size + 1) t p2 n2 c2 from by
    have h := Box.new (w.alloc (.cells #[.int .i64 s, .slice p n c] 30)) t p2 n2 c2 30
    simpa only [World.size_alloc] using h)
  have HB0 := hid (bfrom (on_alloc w (.cells #[.int .i64 s, .slice p n c] 30)) (on_alloc _ (.cells #[.int .i64 t, .slice p2 n2 c2] 30)))
  refine (sIs_any _ _ _ _ es _ (by omega) H1.out (R1.out.on HB0.out)).mono ?_
  rw [decide_eq_true G.out]
  rintro e w2 ⟨rfl, hb2⟩
  have HX2 := hid (HX0.out.on hb2)
  have HY2 := hid (HY0.out.on hb2)
  have HB2 := hid (bfrom HB0.out hb2)
  clear hb2 HX0 HY0 HB0
  have hx1 := HX2.out.1
  have hx2 := HX2.out.2
  have hxz := HX2.out.lt
  have hy1 := HY2.out.1
  have hy2 := HY2.out.2
  have hyz := HY2.out.lt
  go_wp2_with fail
  refine (sIs_any _ _ _ _ fs _ (by omega) H2.out (R2.out.on HB2.out)).mono ?_
  rw [decide_eq_true K.out]
  rintro e w3 ⟨rfl, hb3⟩
  have HX3 := hid (HX2.out.on hb3)
  have HY3 := hid (HY2.out.on hb3)
  have HB3 := hid (bfrom HB2.out hb3)
  clear hb3 HX2 HY2 HB2 hx1 hx2 hxz hy1 hy2 hyz
  have hx1 := HX3.out.1
  have hx2 := HX3.out.2
  have hxz := HX3.out.lt
  have hy1 := HY3.out.1
  have hy2 := HY3.out.2
  have hyz := HY3.out.lt
  go_wp2_with fail
  refine (sTen_any _ _ _ _ ps _ g6 g7 H3.out (R3.out.on HB3.out)).mono ?_
  rw [decide_eq_false L.out]
  rintro e w4 ⟨rfl, hb4⟩
  have HB4 := hid (bfrom HB3.out hb4)
  clear hb4
  go_wp2
  go_ret2
  exact ⟨rfl, HB4.out⟩

theorem leadP_iff {N : Nat} {es fs : List (Int × Int)} {ps : List Int} (hg : IsG (N : Int) es) (hh : IsG (N : Int) fs) (hp : eachF (N : Int) ps) : decide (leadP N es fs ps) = decide (sortE (renE ps es) = fs) := by
  have h := lead_iff hg hh hp
  by_cases e : sortE (renE ps es) = fs
  · rw [decide_eq_true e, decide_eq_true (show leadP N es fs ps from fun v hv w hw => h.1 e v w hw hv)]
  · rw [decide_eq_false e, decide_eq_false (fun k : leadP N es fs ps => e (h.2 fun v w hw hv => k v hv w hw))]

theorem sLeadsTo_any (s : Int) (p : Option Addr) (n c : Nat) (es : List (Int × Int)) (t : Int) (p2 : Option Addr) (n2 c2 : Nat) (fs : List (Int × Int)) (q : Option Addr) (m d : Nat) (ps : List Int) (w : World) (m1 : n ≤ 1048576) (h1 : es.length = n) (r1 : SeesE w p es) (m2 : n2 ≤ 1048576) (h2 : fs.length = n2) (r2 : SeesE w p2 fs) (m3 : m ≤ 1048576) (h3 : ps.length = m) (r3 : SeesI w q ps) :
    Calls Try.prog 28 #[.agg #[.int .i64 s, .slice p n c], .agg #[.int .i64 t, .slice p2 n2 c2], .slice q m d] w fun e' w' => e' = .returned (.tuple #[.bool (fLeadsTo s es t fs ps).1, .int .i64 (fLeadsTo s es t fs ps).2]) ∧ Below w.heap.size w w' := by
  unfold fLeadsTo
  by_cases g : IsG s es
  · by_cases k : IsG t fs
    · rw [if_pos ⟨g, k⟩]
      by_cases l : s = t
      · by_cases e : eachF s ps
        · rw [if_pos ⟨l, e⟩]
          subst l
          obtain ⟨N, rfl⟩ : ∃ N : Nat, s = N := ⟨_, (Int.toNat_of_nonneg (by have := g.1.1.1; omega)).symm⟩
          obtain ⟨b, off, rfl, rd⟩ := isG_sees g r1
          obtain ⟨b2, o2, rfl, rd2⟩ := isG_sees k r2
          obtain ⟨pb, po, rfl, rp⟩ := each_sees (by have := g.1.1.1; omega) e r3
          obtain rfl : m = N := by have := e.1; omega
          have h := sLeads_yes m b off n c b2 o2 n2 c2 pb po d es fs ps w h1 rd g h2 rd2 k h3 rp e
          rw [leadP_iff g k e] at h
          exact h
        · rw [if_neg (fun h => e h.2)]
          exact sLeads_each s t p p2 q n c n2 c2 m d es fs ps w m1 h1 r1 m2 h2 r2 m3 h3 r3 g k l e
      · rw [if_neg (fun h => l h.1)]
        exact sLeads_size s t p p2 q n c n2 c2 m d es fs ps w m1 h1 r1 m2 h2 r2 m3 h3 r3 g k l
    · rw [if_neg (fun h => k h.2)]
      exact sLeads_two s t p p2 q n c n2 c2 m d es fs ps w m1 h1 r1 m2 h2 r2 m3 h3 r3 g k
  · rw [if_neg (fun h => g h.1)]
    exact sLeads_one s t p p2 q n c n2 c2 m d es fs ps w m1 h1 r1 m2 h2 r2 m3 h3 r3 g

end Go.Proofs.Ytbimllpfbgjajaa
