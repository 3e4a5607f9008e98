/- CyclesLeft in the model: the code, and the lengths put in order. -/
import Derived.Test.YthncgpbgffbpgaaCycS
import Derived.Test.YthncgpbgffbpgaaMatS
import Derived.Test.YthncgpbgffbpgaaLensA
import Derived.Laws.AppendOwnNone
namespace Go.Proofs.Ythncgpbgffbpgaa
open Go.RowKit

theorem sMatIs2_any (s : Int) (p ps : Option Addr) (n c k f : Nat) (es : List (Int × Int)) (xs : List Int) (w : World) (g : IsG s es) (hn : es.length = n) (hr : SeesE w p es) (hk9 : k ≤ 1048576) (hx : xs.length = k) (hrx : SeesI w ps xs) :
    Calls Try.prog 35 #[.agg #[.int .i64 s, .slice p n c], .slice ps k f] w fun e' w' => e' = .returned (.bool (decide (isMatP s es xs))) ∧ Below w.heap.size w w' := by
  obtain ⟨N, rfl⟩ : ∃ N : Nat, s = N := ⟨_, (Int.toNat_of_nonneg (by have := g.1.1.1; omega)).symm⟩
  obtain ⟨b, off, rfl, rd⟩ := isG_sees g hr
  exact sMat_loop N b off n c k f ps es xs w hn rd hx hk9 hrx g

set_option maxRecDepth 100000 in
set_option maxHeartbeats 2000000 in
theorem sMatCode_any (s : Int) (p ps : Option Addr) (n c k f : Nat) (es : List (Int × Int)) (xs : List Int) (w : World) (hm : n ≤ 1048576) (hn : es.length = n) (hr : SeesE w p es) (hk9 : k ≤ 1048576) (hx : xs.length = k) (hrx : SeesI w ps xs) :
    Calls Try.prog 21 #[.agg #[.int .i64 s, .slice p n c], .slice ps k f] w fun e' w' => e' = .returned (.int .i64 (matCode s es xs)) ∧ Below w.heap.size w w' := by
  have Hn := hid hn
  have Hr := hid hr
  have Hx := hid hx
  have Hrx := hid hrx
  have hm9 : n ≤ 9223372036854775807 := by omega
  unfold matCode
  by_cases g : IsG s es
  · rw [if_pos g]
    have G := hid g
    obtain ⟨q, hq⟩ : ∃ q, decide (isMatP s es xs) = q := ⟨_, rfl⟩
    have hq' : (if isMatP s es xs then (0 : Int) else 2) = if q then 0 else 2 := by
      subst hq
      by_cases h : isMatP s es xs <;> simp [h]
    rw [hq']
    have HQ := hid hq
    clear hn hr hx hrx g hq hq'
    cases q
    · go_enter Try.func21, Try.ntmps21
      go_wp2_with fail
      refine (sIs_any _ _ _ _ es _ hm9 Hn.out (Hr.out.on (on_alloc _ _))).mono ?_
      rw [decide_eq_true G.out]
      rintro e w2 ⟨rfl, hb2⟩
      have hX2 := (Box.new w s p n c 31).on hb2
      have hx2 := hX2.1
      have hy2 := hX2.2
      have hz2 := hX2.lt
      have HB2 := hid (bfrom (w := w) (by go_grown) hb2)
      clear hb2 hX2
      go_wp2_with fail
      refine (sMatIs2_any _ _ _ _ _ _ _ es xs _ G.out Hn.out (Hr.out.on HB2.out) hk9 Hx.out (Hrx.out.on HB2.out)).mono ?_
      rw [HQ.out]
      rintro e w3 ⟨rfl, hb3⟩
      have HB3 := hid (bfrom HB2.out hb3)
      clear hx2 hy2 hz2 hb3
      go_wp2
      go_ret
      exact ⟨rfl, HB3.out⟩
    · go_enter Try.func21, Try.ntmps21
      go_wp2_with fail
      refine (sIs_any _ _ _ _ es _ hm9 Hn.out (Hr.out.on (on_alloc _ _))).mono ?_
      rw [decide_eq_true G.out]
      rintro e w2 ⟨rfl, hb2⟩
      have hX2 := (Box.new w s p n c 31).on hb2
      have hx2 := hX2.1
      have hy2 := hX2.2
      have hz2 := hX2.lt
      have HB2 := hid (bfrom (w := w) (by go_grown) hb2)
      clear hb2 hX2
      go_wp2_with fail
      refine (sMatIs2_any _ _ _ _ _ _ _ es xs _ G.out Hn.out (Hr.out.on HB2.out) hk9 Hx.out (Hrx.out.on HB2.out)).mono ?_
      rw [HQ.out]
      rintro e w3 ⟨rfl, hb3⟩
      have HB3 := hid (bfrom HB2.out hb3)
      clear hx2 hy2 hz2 hb3
      go_wp2
      go_ret
      exact ⟨rfl, HB3.out⟩
  · rw [if_neg g]
    have G := hid g
    clear hn hr hx hrx g
    go_enter Try.func21, Try.ntmps21
    go_wp2_with fail
    refine (sIs_any _ _ _ _ es _ hm9 Hn.out (Hr.out.on (on_alloc _ _))).mono ?_
    rw [decide_eq_false G.out]
    rintro e w2 ⟨rfl, hb2⟩
    have HB2 := hid (bfrom (w := w) (by go_grown) hb2)
    clear hb2
    go_wp2
    go_ret
    exact ⟨rfl, HB2.out⟩

/-- A copy of a list in memory of its own. -/
theorem news_of {w w' : World} {b off n : Nat} {xs : List Int} (hn : xs.length = n) (hr : ReadsI w b off xs) (hc : ∀ i, i < n → w'.cell? ⟨b, off + i, none⟩ = w.cell? ⟨b, off + i, none⟩) : ∀ j u, (intVals xs)[j]? = some u → w'.cell? ((⟨b, off, none⟩ : Addr).add j) = some u := by
  intro j u hj
  rw [Addr.add_lit]
  have hjl : j < xs.length := by
    have := (List.getElem?_eq_some_iff.1 hj).1
    simpa [intVals] using this
  rw [intVals_at hjl] at hj
  rw [hc j (by omega), ← hj]
  exact hr j hjl

set_option maxRecDepth 100000 in
set_option maxHeartbeats 2000000 in
theorem sOwn_any (b off n c : Nat) (xs : List Int) (w : World) (hn : xs.length = n) (hm : n ≤ 1048576) (hr : ReadsI w b off xs) :
    Calls Try.prog 23 #[.slice (some ⟨b, off, none⟩) n c] w fun e w' => ∃ g cap, e = .returned (.slice (some ⟨g, 0, none⟩) n cap) ∧ w.heap.size ≤ g ∧ OwnI w' g cap xs ∧ Below w.heap.size w w' := by
  obtain ⟨i0, hi, hz0, hz1, hz2⟩ := info_parts infoInt
  have Hr := hid hr
  have Hn := hid hn
  clear hr hn
  go_enter Try.func23, Try.ntmps23
  go_wp2_with (at_builtin; refine wpList_append_own _ rfl _ _ 25 rfl w.heap.size 2 i0 (.int .i64 0) 1 8 Try.underlying25 hi hz0 hz1 hz2 rfl (by decide) _ _ _ rfl (World.ownsRow_made w #[] 0 (Nat.le_refl _) (Nat.zero_le _) rfl) ⟨b, off, none⟩ n c (intVals xs) rfl ?qc1 ?qc2 ?qc3 ?qc4 ?qc5 ?qc6 ?_)
  case qc1 => rw [show (intVals xs).length = xs.length by simp [intVals], Hn.out, Nat.mul_one]
  case qc2 => exact news_of Hn.out Hr.out (fun i hi => (bcells (on_alloc _ _)).1 _ _ (World.block_lt_of_cell? w _ (Hr.out i (by have := Hn.out; omega))))
  case qc3 => exact intVals_one xs
  case qc4 => unfold maxLen; omega
  case qc5 => omega
  case qc6 => simp
  intro v' w1 hown hgrow hnil
  have hB : Below w.heap.size w w1 := ((Below.refl _ w).alloc (Nat.le_refl _) _).grown hgrow (by simp) (by intro k hk; simp [Value.ownBlock] at hk; omega)
  have ho : w1.ownsRow w.heap.size 2 1 v' n (intVals xs) := by simpa using hown
  go_wp2
  go_ret
  rcases ho.2 with ⟨rfl, h0⟩ | ⟨g, cap, cur, rfl, hg, _⟩
  · exact (hnil rfl).elim
  · exact ⟨g, cap, rfl, hg, (OwnI.of_row ho Hn.out).1, hB⟩

set_option maxRecDepth 100000 in
set_option maxHeartbeats 16000000 in
theorem sCyclesLeft_yes (N b off n c : Nat) (ps : Option Addr) (m f0 : Nat) (es : List (Int × Int)) (xs : List Int) (w : World) (hn : es.length = n) (hr : ReadsE w b off es) (g : IsG N es) (hx : xs.length = m) (hm9 : m ≤ 1048576) (hrx : SeesI w ps xs) (hmt : isMatP N es xs) :
    Calls Try.prog 7 #[.agg #[.int .i64 N, .slice (some ⟨b, off, none⟩) n c], .slice ps m f0] w fun e' w' => ∃ q cap, e' = .returned (.tuple #[.slice q (srtI (lensL (cyU es (freeB es xs) (nxF es xs) n))).length cap, .int .i64 0]) ∧ FreshI w.heap.size w' q (srtI (lensL (cyU es (freeB es xs) (nxF es xs) n))).length cap (srtI (lensL (cyU es (freeB es xs) (nxF es xs) n))) ∧ Below w.heap.size w w' := by
  have hn30 : n ≤ 30 := by have := isG_len g; omega
  have hK30 : (cyU es (freeB es xs) (nxF es xs) n).length ≤ 30 := by have := cyU_len es (freeB es xs) (nxF es xs) n; omega
  have Hn := hid hn
  have Hr := hid hr
  have Hx := hid hx
  have Hrx := hid hrx
  have G := hid g
  have Hmt := hid hmt
  obtain ⟨Ls, hLs⟩ : ∃ Ls, Ls = cyU es (freeB es xs) (nxF es xs) n := ⟨_, rfl⟩
  rw [← hLs] at hK30 ⊢
  have HLs := hid hLs
  obtain ⟨j0, hj, hy0, hy1, hy2⟩ := info_parts infoInt
  have Hj := hid hj
  have HC0 := hid (show matCode N es xs = 0 by unfold matCode; rw [if_pos g, if_pos hmt])
  clear hn hr hx hrx g hmt hLs hj
  go_enter Try.func7, Try.ntmps7
  go_wp2_with fail
  refine (sMatCode_any _ _ _ _ _ _ _ es xs _ (by omega) Hn.out (SeesE.on (.inr ⟨b, off, rfl, Hr.out⟩) (on_alloc _ _)) hm9 Hx.out (Hrx.out.on (on_alloc _ _))).mono ?_
  rw [HC0.out]
  rintro e w2 ⟨rfl, hb2⟩
  have hX2 := (Box.new w N (some ⟨b, off, none⟩) n c 31).on hb2
  have hx2 := hX2.1
  have hy2' := hX2.2
  have hz2 := hX2.lt
  have HB2 := hid (bfrom (w := w) (by go_grown) hb2)
  clear hb2 hX2
  go_wp2_with fail
  refine (sCyclesL_any N b off n c ps m f0 es xs _ Hn.out (Hr.out.on HB2.out) G.out Hx.out hm9 (Hrx.out.on HB2.out) Hmt.out).mono ?_
  rw [← HLs.out]
  rintro e w3 ⟨q3, cap3, vals, rfl, hR, hb3⟩
  have HR := hid hR
  have HB3 := hid (bfrom HB2.out hb3)
  clear hR hx2 hy2' hz2 hb3
  obtain ⟨K, hK⟩ : ∃ K, Ls.length = K := ⟨_, rfl⟩
  rw [hK] at hK30 ⊢
  have HK := hid hK
  clear hK
  go_wp2
  go_loopw [8, 9] (fun out iv wr => ∃ (i g cap : Nat), i ≤ K ∧ iv = .int .i64 i ∧ out = .slice (some ⟨g, 0, none⟩) i cap ∧ w3.heap.size ≤ g ∧ Hid (OwnI wr g cap (srtI ((lensL Ls).take i))) ∧ Hid (Below w3.heap.size w3 wr)) (fun _ iv _ => K - (intOf iv).toNat)
  case atStart => exact ⟨0, w3.heap.size, 0, Nat.zero_le _, rfl, rfl, Nat.le_refl _, hid (by rw [show srtI ((lensL Ls).take 0) = [] by simp [srtI]]; exact own_nil _ _ rfl), hid (on_alloc _ _)⟩
  case round =>
    obtain ⟨i, g0, cap0, hi, rfl, rfl, hg0, hO, hB⟩ := hrel
    by_cases hlt : i < K
    · -- the round
      obtain ⟨gr, cr, hvi, hgr, hOr⟩ := HR.out.2.2 i (by rw [HK.out]; exact hlt)
      obtain ⟨X, hX⟩ : ∃ X, (lR Ls i).length = X := ⟨_, rfl⟩
      rw [hX] at hvi
      have hX30 : X ≤ 9223372036854775807 := by
        obtain ⟨cur, _, _, h1, h2, _⟩ := hOr
        unfold maxLen at h2
        omega
      have HX := hid hX
      obtain ⟨gL, rfl⟩ : ∃ gL, q3 = some ⟨gL, 0, none⟩ := by
        rcases HR.out.1.2 with ⟨hv, h0⟩ | ⟨gL, capL, cur, hv, _⟩
        · rw [HK.out] at h0; omega
        · injection hv with e1 e2 e3
          exact ⟨gL, e1⟩
      have hcL := HR.out.1.cells (g := gL) rfl i _ hvi
      rw [Addr.add_lit, Nat.zero_add] at hcL
      have hgL : gL < w3.heap.size := World.block_lt_of_cell? w3 _ hcL
      have hcr := ((bcells hB.out).1 gL i hgL).trans hcL
      have hgLr : gL < wr.heap.size := by have := hB.out.size; omega
      obtain ⟨S, hS⟩ : ∃ S, srtI ((lensL Ls).take i) = S := ⟨_, rfl⟩
      rw [hS] at hO
      have HS := hid hS
      have hSl : S.length = i := by rw [← hS, srtI_len, List.length_take, lensL_len, HK.out]; omega
      have HSl := hid hSl
      clear hcL hS hSl hX hvi hOr
      have hg0r := hO.out.lt
      obtain ⟨wo, rfl⟩ : ∃ wo : World, wo = wr := ⟨_, rfl⟩
      go_wp2
      go_loopw [11] (fun av wk => ∃ a : Nat, a ≤ i ∧ av = .int .i64 a ∧ Hid (a < i → (X : Int) ≤ eI S a) ∧ wk = wo) (fun av _ => (intOf av).toNat)
      case atStart => exact ⟨i, Nat.le_refl _, rfl, hid (fun h => by omega), rfl⟩
      case round =>
        obtain ⟨a, ha, rfl, hA, rfl⟩ := hrel
        by_cases h0 : a = 0
        · have hz : ¬ 0 < a := by omega
          have HA := hid (show (0 < a → eI S (a - 1) ≤ X) from fun h => by omega)
          clear h0
          by_cases hac : a < cap0
          · go_wp2_with (at_builtin; go_loud (refine wpList_append_own _ rfl (.tmp 50) (.tmp 53) 25 rfl wr.heap.size 2 j0 (.int .i64 0) 1 8 Try.underlying25 Hj.out hy0 hy1 hy2 rfl (by decide) (.slice (some ⟨wr.heap.size, 0, none⟩) 1 1) 1 (intVals [(X : Int)]) rfl (OwnI.row (own_one wr _ (X : Int) rfl) rfl (Nat.le_refl _)) ⟨g0, a, none⟩ (i - a) (cap0 - a) (intVals (S.drop a)) ?qx ?qc1 ?qc2 ?qc3 ?qc4 ?qc5 ?qc6 ?_))
            case qx => simp [Act.eval]
            case qc1 => rw [intVals_length, List.length_drop, HSl.out, Nat.mul_one]
            case qc2 => intro k u hk; have hkl : k < (S.drop a).length := (by have := (List.getElem?_eq_some_iff.1 hk).1; rwa [intVals_length] at this); rw [intVals_at hkl] at hk; rw [List.length_drop, HSl.out] at hkl; have h := hO.out.cellK (i := a + k) (by rw [HSl.out]; omega); rw [Addr.add_lit, ← hk, (bcells (on_alloc wr _)).1 _ _ hO.out.lt, h]; congr 2; rw [eI_lt (by rw [HSl.out]; omega), eI_lt (by rw [List.length_drop, HSl.out]; omega), List.getElem_drop]
            case qc3 => exact intVals_one _
            case qc4 => unfold maxLen; omega
            case qc5 => omega
            case qc6 => simp
            intro v1 w4 hown1 hgrow1 _
            obtain ⟨g1, cap1, rfl⟩ : ∃ g1 cap1, v1 = .slice (some ⟨g1, 0, none⟩) (1 + (i - a)) cap1 := by
              rcases hown1.2 with ⟨_, h0⟩ | ⟨g1, cap1, cur, hv, _⟩
              · omega
              · exact ⟨g1, cap1, hv⟩
            have hB4 : Below wr.heap.size wr w4 := (on_alloc wr _).grown hgrow1 (by simp) (fun k hk => by have e1 : wr.heap.size = k := Option.some.inj hk; omega)
            have HB4 := hid hB4
            have HR1 := hid (OwnI.of_row (n := 1 + (i - a)) (xs := (X : Int) :: S.drop a) hown1 (by rw [List.length_cons, List.length_drop, HSl.out]; omega)).1
            have HO4 := hid (hO.out.on hB4)
            have hg04 := HO4.out.lt
            have hac0 : a ≤ cap0 := by have := hO.out.le; have := HSl.out; omega
            clear hown1 hgrow1 hB4
            go_wp2_with fail
            refine (sOwn_any g0 0 a cap0 (S.take a) _ (by rw [List.length_take, HSl.out]; omega) (by omega) (fun k hk => by rw [List.length_take, HSl.out] at hk; have h := HO4.out.reads k (by rw [HSl.out]; omega); rw [h]; congr 2; rw [eI_lt (by rw [HSl.out]; omega), eI_lt (by rw [List.length_take, HSl.out]; omega), List.getElem_take])).mono ?_
            rintro e5 w5 ⟨g2, cap2, rfl, hg2, hO2, hB5⟩
            have HB5 := hid hB5
            have HO2 := hid hO2
            have HR5 := hid (HR1.out.on hB5)
            clear hB5 hO2
            go_wp2_with (at_builtin; refine wpList_append_own _ rfl (.tmp 58) (.tmp 59) 25 rfl w4.heap.size 2 j0 (.int .i64 0) 1 8 Try.underlying25 Hj.out hy0 hy1 hy2 rfl (by decide) (.slice (some ⟨g2, 0, none⟩) a cap2) a (intVals (S.take a)) rfl (OwnI.row HO2.out (by rw [List.length_take, HSl.out]; omega) hg2) ⟨g1, 0, none⟩ (1 + (i - a)) cap1 (intVals ((X : Int) :: S.drop a)) rfl ?qd1 ?qd2 ?qd3 ?qd4 ?qd5 ?qd6 ?_)
            case qd1 => rw [intVals_length, List.length_cons, List.length_drop, HSl.out]; omega
            case qd2 => exact news_of (n := 1 + (i - a)) (by rw [List.length_cons, List.length_drop, HSl.out]; omega) HR5.out.reads (fun _ _ => rfl)
            case qd3 => exact intVals_one _
            case qd4 => unfold maxLen; omega
            case qd5 => omega
            case qd6 => exact HB5.out.size
            intro v2 w6 hown2 hgrow2 _
            rw [show a + (1 + (i - a)) = i + 1 by omega] at hown2
            obtain ⟨g3, cap3', rfl⟩ : ∃ g3 cap3', v2 = .slice (some ⟨g3, 0, none⟩) (i + 1) cap3' := by
              rcases hown2.2 with ⟨_, h0⟩ | ⟨g1, cap1, cur, hv, _⟩
              · omega
              · exact ⟨g1, cap1, hv⟩
            have hSn : srtI ((lensL Ls).take (i + 1)) = S.take a ++ (X : Int) :: S.drop a := by
              rw [lensL_take (by rw [HK.out]; exact hlt)]
              have e : (Ls.getD i []).length = X := HX.out
              rw [e]
              have h := srtI_step (xs := (lensL Ls).take i) (x := (X : Int)) (a := a) (by rw [HS.out, HSl.out]; exact ha) (by rw [HS.out]; exact HA.out) (by rw [HS.out, HSl.out]; exact hA.out)
              rw [h, HS.out]
            have hO3 := OwnI.of_row (n := i + 1) (xs := S.take a ++ (X : Int) :: S.drop a) (by rw [intVals_append]; exact hown2) (by rw [List.length_append, List.length_take, List.length_cons, List.length_drop, HSl.out]; omega)
            have hB6 : Below w4.heap.size w4 w6 := HB5.out.grown hgrow2 HB5.out.size (fun k hk => by have e1 : g2 = k := Option.some.inj hk; omega)
            have HF := hid (And.intro hSn (And.intro hO3 hB6))
            clear hown2 hgrow2 hSn hO3 hB6
            go_wp2
            go_roundw
            case rel =>
              refine ⟨i + 1, g3, cap3', by omega, by go_num, rfl, ?_, hid (by rw [HF.out.1]; exact HF.out.2.1.1), hid (bfrom (hB.out.trans (HB4.out.mono (by have := hB.out.size; omega))) HF.out.2.2)⟩
              have := HF.out.2.1.2; have := HB4.out.size; have := hB.out.size; omega
            case measure => simp [intOf]; omega
          · have hca : a = cap0 := by (have := hO.out.le; have := HSl.out; omega)
            subst hca
            go_wp2_with (at_builtin; go_loud (refine wpList_append_own _ rfl (.tmp 50) (.tmp 53) 25 rfl wr.heap.size 2 j0 (.int .i64 0) 1 8 Try.underlying25 Hj.out hy0 hy1 hy2 rfl (by decide) (.slice (some ⟨wr.heap.size, 0, none⟩) 1 1) 1 (intVals [(X : Int)]) rfl (OwnI.row (own_one wr _ (X : Int) rfl) rfl (Nat.le_refl _)) ⟨g0, 0, none⟩ (i - a) (a - a) (intVals (S.drop a)) ?qx ?qc1 ?qc2 ?qc3 ?qc4 ?qc5 ?qc6 ?_))
            case qx => simp [Act.eval]
            case qc1 => rw [intVals_length, List.length_drop, HSl.out, Nat.mul_one]
            case qc2 => intro k u hk; have hkl : k < (S.drop a).length := (by have := (List.getElem?_eq_some_iff.1 hk).1; rwa [intVals_length] at this); rw [List.length_drop, HSl.out] at hkl; have := hO.out.le; have := HSl.out; omega
            case qc3 => exact intVals_one _
            case qc4 => unfold maxLen; omega
            case qc5 => omega
            case qc6 => simp
            intro v1 w4 hown1 hgrow1 _
            obtain ⟨g1, cap1, rfl⟩ : ∃ g1 cap1, v1 = .slice (some ⟨g1, 0, none⟩) (1 + (i - a)) cap1 := by
              rcases hown1.2 with ⟨_, h0⟩ | ⟨g1, cap1, cur, hv, _⟩
              · omega
              · exact ⟨g1, cap1, hv⟩
            have hB4 : Below wr.heap.size wr w4 := (on_alloc wr _).grown hgrow1 (by simp) (fun k hk => by have e1 : wr.heap.size = k := Option.some.inj hk; omega)
            have HB4 := hid hB4
            have HR1 := hid (OwnI.of_row (n := 1 + (i - a)) (xs := (X : Int) :: S.drop a) hown1 (by rw [List.length_cons, List.length_drop, HSl.out]; omega)).1
            have HO4 := hid (hO.out.on hB4)
            have hg04 := HO4.out.lt
            have hac0 : True := trivial
            clear hown1 hgrow1 hB4
            go_wp2_with fail
            refine (sOwn_any g0 0 a a (S.take a) _ (by rw [List.length_take, HSl.out]; omega) (by omega) (fun k hk => by rw [List.length_take, HSl.out] at hk; have h := HO4.out.reads k (by rw [HSl.out]; omega); rw [h]; congr 2; rw [eI_lt (by rw [HSl.out]; omega), eI_lt (by rw [List.length_take, HSl.out]; omega), List.getElem_take])).mono ?_
            rintro e5 w5 ⟨g2, cap2, rfl, hg2, hO2, hB5⟩
            have HB5 := hid hB5
            have HO2 := hid hO2
            have HR5 := hid (HR1.out.on hB5)
            clear hB5 hO2
            go_wp2_with (at_builtin; refine wpList_append_own _ rfl (.tmp 58) (.tmp 59) 25 rfl w4.heap.size 2 j0 (.int .i64 0) 1 8 Try.underlying25 Hj.out hy0 hy1 hy2 rfl (by decide) (.slice (some ⟨g2, 0, none⟩) a cap2) a (intVals (S.take a)) rfl (OwnI.row HO2.out (by rw [List.length_take, HSl.out]; omega) hg2) ⟨g1, 0, none⟩ (1 + (i - a)) cap1 (intVals ((X : Int) :: S.drop a)) rfl ?qd1 ?qd2 ?qd3 ?qd4 ?qd5 ?qd6 ?_)
            case qd1 => rw [intVals_length, List.length_cons, List.length_drop, HSl.out]; omega
            case qd2 => exact news_of (n := 1 + (i - a)) (by rw [List.length_cons, List.length_drop, HSl.out]; omega) HR5.out.reads (fun _ _ => rfl)
            case qd3 => exact intVals_one _
            case qd4 => unfold maxLen; omega
            case qd5 => omega
            case qd6 => exact HB5.out.size
            intro v2 w6 hown2 hgrow2 _
            rw [show a + (1 + (i - a)) = i + 1 by omega] at hown2
            obtain ⟨g3, cap3', rfl⟩ : ∃ g3 cap3', v2 = .slice (some ⟨g3, 0, none⟩) (i + 1) cap3' := by
              rcases hown2.2 with ⟨_, h0⟩ | ⟨g1, cap1, cur, hv, _⟩
              · omega
              · exact ⟨g1, cap1, hv⟩
            have hSn : srtI ((lensL Ls).take (i + 1)) = S.take a ++ (X : Int) :: S.drop a := by
              rw [lensL_take (by rw [HK.out]; exact hlt)]
              have e : (Ls.getD i []).length = X := HX.out
              rw [e]
              have h := srtI_step (xs := (lensL Ls).take i) (x := (X : Int)) (a := a) (by rw [HS.out, HSl.out]; exact ha) (by rw [HS.out]; exact HA.out) (by rw [HS.out, HSl.out]; exact hA.out)
              rw [h, HS.out]
            have hO3 := OwnI.of_row (n := i + 1) (xs := S.take a ++ (X : Int) :: S.drop a) (by rw [intVals_append]; exact hown2) (by rw [List.length_append, List.length_take, List.length_cons, List.length_drop, HSl.out]; omega)
            have hB6 : Below w4.heap.size w4 w6 := HB5.out.grown hgrow2 HB5.out.size (fun k hk => by have e1 : g2 = k := Option.some.inj hk; omega)
            have HF := hid (And.intro hSn (And.intro hO3 hB6))
            clear hown2 hgrow2 hSn hO3 hB6
            go_wp2
            go_roundw
            case rel =>
              refine ⟨i + 1, g3, cap3', by omega, by go_num, rfl, ?_, hid (by rw [HF.out.1]; exact HF.out.2.1.1), hid (bfrom (hB.out.trans (HB4.out.mono (by have := hB.out.size; omega))) HF.out.2.2)⟩
              have := HF.out.2.1.2; have := HB4.out.size; have := hB.out.size; omega
            case measure => simp [intOf]; omega
        · have hz : 0 < a := by omega
          have e1 : IntKind.i64.wrap ((a : Int) - 1) = (a : Int) - 1 := IntWalk.i64_in _ (by omega)
          have e2 : ((a : Int) - 1).toNat = a - 1 := by omega
          have e3 : (0 : Int) ≤ (a : Int) - 1 := by omega
          have e4 : (a : Int) - 1 < (i : Int) := by omega
          have e5 : a - 1 < i := by omega
          have hcy := hO.out.cellK (i := a - 1) (by rw [HSl.out]; omega)
          obtain ⟨y, hy⟩ : ∃ y, eI S (a - 1) = y := ⟨_, rfl⟩
          rw [hy] at hcy
          have HY := hid hy
          clear hy
          by_cases g1 : (X : Int) < y
          · have g1' : decide ((X : Int) < y) = true := by simpa using g1
            have G1 := hid g1
            clear g1
            go_wp2
            go_roundw
            case rel => exact ⟨a - 1, by omega, by go_num, hid (fun _ => by rw [HY.out]; have := G1.out; omega), by trivial⟩
            case measure => simp [intOf]; omega
          · have g1' : decide ((X : Int) < y) = false := by simpa using g1
            have HA := hid (show (0 < a → eI S (a - 1) ≤ X) from fun _ => by rw [HY.out]; omega)
            clear g1
            by_cases hac : a < cap0
            · go_wp2_with (at_builtin; go_loud (refine wpList_append_own _ rfl (.tmp 50) (.tmp 53) 25 rfl wr.heap.size 2 j0 (.int .i64 0) 1 8 Try.underlying25 Hj.out hy0 hy1 hy2 rfl (by decide) (.slice (some ⟨wr.heap.size, 0, none⟩) 1 1) 1 (intVals [(X : Int)]) rfl (OwnI.row (own_one wr _ (X : Int) rfl) rfl (Nat.le_refl _)) ⟨g0, a, none⟩ (i - a) (cap0 - a) (intVals (S.drop a)) ?qx ?qc1 ?qc2 ?qc3 ?qc4 ?qc5 ?qc6 ?_))
              case qx => simp [Act.eval]
              case qc1 => rw [intVals_length, List.length_drop, HSl.out, Nat.mul_one]
              case qc2 => intro k u hk; have hkl : k < (S.drop a).length := (by have := (List.getElem?_eq_some_iff.1 hk).1; rwa [intVals_length] at this); rw [intVals_at hkl] at hk; rw [List.length_drop, HSl.out] at hkl; have h := hO.out.cellK (i := a + k) (by rw [HSl.out]; omega); rw [Addr.add_lit, ← hk, (bcells (on_alloc wr _)).1 _ _ hO.out.lt, h]; congr 2; rw [eI_lt (by rw [HSl.out]; omega), eI_lt (by rw [List.length_drop, HSl.out]; omega), List.getElem_drop]
              case qc3 => exact intVals_one _
              case qc4 => unfold maxLen; omega
              case qc5 => omega
              case qc6 => simp
              intro v1 w4 hown1 hgrow1 _
              obtain ⟨g1, cap1, rfl⟩ : ∃ g1 cap1, v1 = .slice (some ⟨g1, 0, none⟩) (1 + (i - a)) cap1 := by
                rcases hown1.2 with ⟨_, h0⟩ | ⟨g1, cap1, cur, hv, _⟩
                · omega
                · exact ⟨g1, cap1, hv⟩
              have hB4 : Below wr.heap.size wr w4 := (on_alloc wr _).grown hgrow1 (by simp) (fun k hk => by have e1 : wr.heap.size = k := Option.some.inj hk; omega)
              have HB4 := hid hB4
              have HR1 := hid (OwnI.of_row (n := 1 + (i - a)) (xs := (X : Int) :: S.drop a) hown1 (by rw [List.length_cons, List.length_drop, HSl.out]; omega)).1
              have HO4 := hid (hO.out.on hB4)
              have hg04 := HO4.out.lt
              have hac0 : a ≤ cap0 := by have := hO.out.le; have := HSl.out; omega
              clear hown1 hgrow1 hB4
              go_wp2_with fail
              refine (sOwn_any g0 0 a cap0 (S.take a) _ (by rw [List.length_take, HSl.out]; omega) (by omega) (fun k hk => by rw [List.length_take, HSl.out] at hk; have h := HO4.out.reads k (by rw [HSl.out]; omega); rw [h]; congr 2; rw [eI_lt (by rw [HSl.out]; omega), eI_lt (by rw [List.length_take, HSl.out]; omega), List.getElem_take])).mono ?_
              rintro e5 w5 ⟨g2, cap2, rfl, hg2, hO2, hB5⟩
              have HB5 := hid hB5
              have HO2 := hid hO2
              have HR5 := hid (HR1.out.on hB5)
              clear hB5 hO2
              go_wp2_with (at_builtin; refine wpList_append_own _ rfl (.tmp 58) (.tmp 59) 25 rfl w4.heap.size 2 j0 (.int .i64 0) 1 8 Try.underlying25 Hj.out hy0 hy1 hy2 rfl (by decide) (.slice (some ⟨g2, 0, none⟩) a cap2) a (intVals (S.take a)) rfl (OwnI.row HO2.out (by rw [List.length_take, HSl.out]; omega) hg2) ⟨g1, 0, none⟩ (1 + (i - a)) cap1 (intVals ((X : Int) :: S.drop a)) rfl ?qd1 ?qd2 ?qd3 ?qd4 ?qd5 ?qd6 ?_)
              case qd1 => rw [intVals_length, List.length_cons, List.length_drop, HSl.out]; omega
              case qd2 => exact news_of (n := 1 + (i - a)) (by rw [List.length_cons, List.length_drop, HSl.out]; omega) HR5.out.reads (fun _ _ => rfl)
              case qd3 => exact intVals_one _
              case qd4 => unfold maxLen; omega
              case qd5 => omega
              case qd6 => exact HB5.out.size
              intro v2 w6 hown2 hgrow2 _
              rw [show a + (1 + (i - a)) = i + 1 by omega] at hown2
              obtain ⟨g3, cap3', rfl⟩ : ∃ g3 cap3', v2 = .slice (some ⟨g3, 0, none⟩) (i + 1) cap3' := by
                rcases hown2.2 with ⟨_, h0⟩ | ⟨g1, cap1, cur, hv, _⟩
                · omega
                · exact ⟨g1, cap1, hv⟩
              have hSn : srtI ((lensL Ls).take (i + 1)) = S.take a ++ (X : Int) :: S.drop a := by
                rw [lensL_take (by rw [HK.out]; exact hlt)]
                have e : (Ls.getD i []).length = X := HX.out
                rw [e]
                have h := srtI_step (xs := (lensL Ls).take i) (x := (X : Int)) (a := a) (by rw [HS.out, HSl.out]; exact ha) (by rw [HS.out]; exact HA.out) (by rw [HS.out, HSl.out]; exact hA.out)
                rw [h, HS.out]
              have hO3 := OwnI.of_row (n := i + 1) (xs := S.take a ++ (X : Int) :: S.drop a) (by rw [intVals_append]; exact hown2) (by rw [List.length_append, List.length_take, List.length_cons, List.length_drop, HSl.out]; omega)
              have hB6 : Below w4.heap.size w4 w6 := HB5.out.grown hgrow2 HB5.out.size (fun k hk => by have e1 : g2 = k := Option.some.inj hk; omega)
              have HF := hid (And.intro hSn (And.intro hO3 hB6))
              clear hown2 hgrow2 hSn hO3 hB6
              go_wp2
              go_roundw
              case rel =>
                refine ⟨i + 1, g3, cap3', by omega, by go_num, rfl, ?_, hid (by rw [HF.out.1]; exact HF.out.2.1.1), hid (bfrom (hB.out.trans (HB4.out.mono (by have := hB.out.size; omega))) HF.out.2.2)⟩
                have := HF.out.2.1.2; have := HB4.out.size; have := hB.out.size; omega
              case measure => simp [intOf]; omega
            · have hca : a = cap0 := by (have := hO.out.le; have := HSl.out; omega)
              subst hca
              go_wp2_with (at_builtin; go_loud (refine wpList_append_own _ rfl (.tmp 50) (.tmp 53) 25 rfl wr.heap.size 2 j0 (.int .i64 0) 1 8 Try.underlying25 Hj.out hy0 hy1 hy2 rfl (by decide) (.slice (some ⟨wr.heap.size, 0, none⟩) 1 1) 1 (intVals [(X : Int)]) rfl (OwnI.row (own_one wr _ (X : Int) rfl) rfl (Nat.le_refl _)) ⟨g0, 0, none⟩ (i - a) (a - a) (intVals (S.drop a)) ?qx ?qc1 ?qc2 ?qc3 ?qc4 ?qc5 ?qc6 ?_))
              case qx => simp [Act.eval]
              case qc1 => rw [intVals_length, List.length_drop, HSl.out, Nat.mul_one]
              case qc2 => intro k u hk; have hkl : k < (S.drop a).length := (by have := (List.getElem?_eq_some_iff.1 hk).1; rwa [intVals_length] at this); rw [List.length_drop, HSl.out] at hkl; have := hO.out.le; have := HSl.out; omega
              case qc3 => exact intVals_one _
              case qc4 => unfold maxLen; omega
              case qc5 => omega
              case qc6 => simp
              intro v1 w4 hown1 hgrow1 _
              obtain ⟨g1, cap1, rfl⟩ : ∃ g1 cap1, v1 = .slice (some ⟨g1, 0, none⟩) (1 + (i - a)) cap1 := by
                rcases hown1.2 with ⟨_, h0⟩ | ⟨g1, cap1, cur, hv, _⟩
                · omega
                · exact ⟨g1, cap1, hv⟩
              have hB4 : Below wr.heap.size wr w4 := (on_alloc wr _).grown hgrow1 (by simp) (fun k hk => by have e1 : wr.heap.size = k := Option.some.inj hk; omega)
              have HB4 := hid hB4
              have HR1 := hid (OwnI.of_row (n := 1 + (i - a)) (xs := (X : Int) :: S.drop a) hown1 (by rw [List.length_cons, List.length_drop, HSl.out]; omega)).1
              have HO4 := hid (hO.out.on hB4)
              have hg04 := HO4.out.lt
              have hac0 : True := trivial
              clear hown1 hgrow1 hB4
              go_wp2_with fail
              refine (sOwn_any g0 0 a a (S.take a) _ (by rw [List.length_take, HSl.out]; omega) (by omega) (fun k hk => by rw [List.length_take, HSl.out] at hk; have h := HO4.out.reads k (by rw [HSl.out]; omega); rw [h]; congr 2; rw [eI_lt (by rw [HSl.out]; omega), eI_lt (by rw [List.length_take, HSl.out]; omega), List.getElem_take])).mono ?_
              rintro e5 w5 ⟨g2, cap2, rfl, hg2, hO2, hB5⟩
              have HB5 := hid hB5
              have HO2 := hid hO2
              have HR5 := hid (HR1.out.on hB5)
              clear hB5 hO2
              go_wp2_with (at_builtin; refine wpList_append_own _ rfl (.tmp 58) (.tmp 59) 25 rfl w4.heap.size 2 j0 (.int .i64 0) 1 8 Try.underlying25 Hj.out hy0 hy1 hy2 rfl (by decide) (.slice (some ⟨g2, 0, none⟩) a cap2) a (intVals (S.take a)) rfl (OwnI.row HO2.out (by rw [List.length_take, HSl.out]; omega) hg2) ⟨g1, 0, none⟩ (1 + (i - a)) cap1 (intVals ((X : Int) :: S.drop a)) rfl ?qd1 ?qd2 ?qd3 ?qd4 ?qd5 ?qd6 ?_)
              case qd1 => rw [intVals_length, List.length_cons, List.length_drop, HSl.out]; omega
              case qd2 => exact news_of (n := 1 + (i - a)) (by rw [List.length_cons, List.length_drop, HSl.out]; omega) HR5.out.reads (fun _ _ => rfl)
              case qd3 => exact intVals_one _
              case qd4 => unfold maxLen; omega
              case qd5 => omega
              case qd6 => exact HB5.out.size
              intro v2 w6 hown2 hgrow2 _
              rw [show a + (1 + (i - a)) = i + 1 by omega] at hown2
              obtain ⟨g3, cap3', rfl⟩ : ∃ g3 cap3', v2 = .slice (some ⟨g3, 0, none⟩) (i + 1) cap3' := by
                rcases hown2.2 with ⟨_, h0⟩ | ⟨g1, cap1, cur, hv, _⟩
                · omega
                · exact ⟨g1, cap1, hv⟩
              have hSn : srtI ((lensL Ls).take (i + 1)) = S.take a ++ (X : Int) :: S.drop a := by
                rw [lensL_take (by rw [HK.out]; exact hlt)]
                have e : (Ls.getD i []).length = X := HX.out
                rw [e]
                have h := srtI_step (xs := (lensL Ls).take i) (x := (X : Int)) (a := a) (by rw [HS.out, HSl.out]; exact ha) (by rw [HS.out]; exact HA.out) (by rw [HS.out, HSl.out]; exact hA.out)
                rw [h, HS.out]
              have hO3 := OwnI.of_row (n := i + 1) (xs := S.take a ++ (X : Int) :: S.drop a) (by rw [intVals_append]; exact hown2) (by rw [List.length_append, List.length_take, List.length_cons, List.length_drop, HSl.out]; omega)
              have hB6 : Below w4.heap.size w4 w6 := HB5.out.grown hgrow2 HB5.out.size (fun k hk => by have e1 : g2 = k := Option.some.inj hk; omega)
              have HF := hid (And.intro hSn (And.intro hO3 hB6))
              clear hown2 hgrow2 hSn hO3 hB6
              go_wp2
              go_roundw
              case rel =>
                refine ⟨i + 1, g3, cap3', by omega, by go_num, rfl, ?_, hid (by rw [HF.out.1]; exact HF.out.2.1.1), hid (bfrom (hB.out.trans (HB4.out.mono (by have := hB.out.size; omega))) HF.out.2.2)⟩
                have := HF.out.2.1.2; have := HB4.out.size; have := hB.out.size; omega
              case measure => simp [intOf]; omega
    · obtain rfl : i = K := by omega
      go_wp2
      go_ret2
      have hT : (lensL Ls).take i = lensL Ls := List.take_of_length_le (by rw [lensL_len, HK.out]; omega)
      have hl : (srtI (lensL Ls)).length = i := by rw [srtI_len, lensL_len, HK.out]
      have hO' := hO.out
      rw [hT] at hO'
      rw [hl]
      exact ⟨some ⟨g0, 0, none⟩, cap0, rfl, FreshI.of_own hO' hl (by have := HB3.out.size; omega), bfrom HB3.out hB.out⟩

end Go.Proofs.Ythncgpbgffbpgaa
