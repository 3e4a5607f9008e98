/- ColouringOf in the model. -/
import Derived.Test.YthncgpbgffbpgaaCycT
import Derived.Test.YthncgpbgffbpgaaPstA
import Derived.Deep.RegionWith
import Derived.Deep.DeepCutAuto
namespace Go.Proofs.Ythncgpbgffbpgaa
open Go.RowKit

/-- What a row of a list of lists in memory holds. -/
theorem rowsM_at {w : World} {B cap : Nat} {q : Option Addr} {Ls : List (List Int)} {vals : List Value} (h : RowsM w B Ls cap q vals) {i : Nat} (hi : i < Ls.length) :
    ∃ gL gr cr, q = some ⟨gL, 0, none⟩ ∧ w.cell? ⟨gL, i, none⟩ = some (.slice (some ⟨gr, 0, none⟩) (lR Ls i).length cr) ∧ gL < w.heap.size ∧ B ≤ gr ∧ OwnI w gr cr (lR Ls i) ∧ vals[i]? = some (.slice (some ⟨gr, 0, none⟩) (lR Ls i).length cr) := by
  obtain ⟨gr, cr, hvi, hgr, hOr⟩ := h.2.2 i hi
  obtain ⟨gL, rfl⟩ : ∃ gL, q = some ⟨gL, 0, none⟩ := by
    rcases h.1.2 with ⟨hv, h0⟩ | ⟨gL, capL, cur, hv, _⟩
    · omega
    · injection hv with e1 e2 e3
      exact ⟨gL, e1⟩
  have hcL := h.1.cells (g := gL) rfl i _ hvi
  rw [Addr.add_lit, Nat.zero_add] at hcL
  exact ⟨gL, gr, cr, rfl, hcL, World.block_lt_of_cell? w _ hcL, hgr, hOr, hvi⟩

set_option maxRecDepth 100000 in
set_option maxHeartbeats 4000000 in
theorem sOdd_any (q : Option Addr) (K cap B : Nat) (Ls : List (List Int)) (vals : List Value) (w : World) (hK : Ls.length = K) (hK30 : K ≤ 30) (h : RowsM w B Ls cap q vals) :
    Calls Try.prog 30 #[.slice q K cap] w fun e' w' => e' = .returned (.int .i64 (oddN Ls K : Nat)) ∧ w = w' := by
  have HR := hid h
  have HK := hid hK
  have HO := hid (oddN_le Ls)
  clear h hK
  go_enter Try.func30, Try.ntmps30
  go_wp2
  go_loopw [3, 4] (fun cv iv wr => ∃ i : Nat, i ≤ K ∧ iv = .int .i64 i ∧ cv = .int .i64 (oddN Ls i : Nat) ∧ wr = w) (fun _ iv _ => K - (intOf iv).toNat)
  case atStart => exact ⟨0, Nat.zero_le _, rfl, rfl, rfl⟩
  case round =>
    obtain ⟨i, hi, rfl, rfl, rfl⟩ := hrel
    by_cases hlt : i < K
    · obtain ⟨gL, gr, cr, rfl, hc, hg, _, hO, _⟩ := rowsM_at HR.out (i := i) (by rw [HK.out]; exact hlt)
      obtain ⟨X, hX⟩ : ∃ X, (lR Ls i).length = X := ⟨_, rfl⟩
      have hX9 : X ≤ 9223372036854775807 := by
        obtain ⟨cur, _, _, h1, h2, _⟩ := hO
        rw [hX] at h1
        unfold maxLen at h2
        omega
      obtain ⟨o, ho⟩ : ∃ o, oddN Ls i = o := ⟨_, rfl⟩
      have ho30 : o ≤ 30 := by have := HO.out i; omega
      have HNx := hid (show oddN Ls (i + 1) = o + X % 2 by rw [← ho, ← hX]; rfl)
      rw [hX] at hc
      rw [ho]
      have e1 : IntKind.i64.wrap ((o : Int) + (X : Int) % 2) = (o : Int) + (X : Int) % 2 := IntWalk.i64_in _ (by omega)
      have e2 : ((X : Int)).tmod 2 = (X : Int) % 2 := Int.tmod_eq_emod_of_nonneg (by omega)
      clear hX hO ho
      go_wp2
      go_roundw
      case rel => exact ⟨i + 1, by omega, by go_num, by rw [HNx.out]; push_cast; rfl, by trivial⟩
      case measure => simp [intOf]; omega
    · obtain rfl : i = K := by omega
      go_wp2
      go_ret
      exact ⟨rfl, rfl⟩

theorem rowsM_less {w : World} {B B' cap : Nat} {q : Option Addr} {Ls : List (List Int)} {vals : List Value} (h : RowsM w B Ls cap q vals) (hB : B' ≤ B) : RowsM w B' Ls cap q vals := by
  obtain ⟨h1, h2, h3⟩ := h
  refine ⟨⟨h1.1, ?_⟩, h2, fun i hi => ?_⟩
  · rcases h1.2 with hn | ⟨g, c, cur, hv, hb, r⟩
    · exact .inl hn
    · exact .inr ⟨g, c, cur, hv, Nat.le_trans hB hb, r⟩
  · obtain ⟨g, c, e1, e2, e3⟩ := h3 i hi
    exact ⟨g, c, e1, Nat.le_trans hB e2, e3⟩
theorem rowsM_blk {w : World} {B cap i g m c : Nat} {q : Option Addr} {Ls : List (List Int)} {vals : List Value} (h : RowsM w B Ls cap q vals) (hv : vals[i]? = some (.slice (some ⟨g, 0, none⟩) m c)) : B ≤ g ∧ g < w.heap.size := by
  have hi : i < Ls.length := by
    have := (List.getElem?_eq_some_iff.1 hv).1
    have := h.2.1
    omega
  obtain ⟨g', c', e1, e2, e3⟩ := h.2.2 i hi
  rw [hv] at e1
  have e4 := Option.some.inj e1
  injection e4 with e5
  simp only [Option.some.injEq, Addr.mk.injEq] at e5
  obtain ⟨rfl, _⟩ := e5
  exact ⟨e2, e3.lt⟩
theorem own_zeros (w : World) (g n : Nat) (hg : g = w.heap.size) (hn : n ≤ 30) : OwnI (w.alloc (.cells (madeCells (Value.int .i64 0).cells (n * 1)) 2)) g n (List.replicate n 0) := by
  subst hg
  refine ⟨_, heap_alloc_new w _, by rw [size_madeCells, Nat.mul_one], by simp, by unfold maxLen; omega, fun i hi => ?_⟩
  have hi' : i < n := by simpa using hi
  rw [eI_lt (by simpa using hi')]
  simp [madeCells, hi', Value.cells, Nat.mod_one]

/-- No row lies in the block gO. -/
def ApartR (vals : List Value) (gO : Nat) : Prop := ∀ (i g m c : Nat), vals[i]? = some (Value.slice (some ⟨g, 0, none⟩) m c) → g ≠ gO
theorem own_zerosZ {ZC : Array Value} (w : World) (g n : Nat) (hZ : ZC = madeCells (Value.int .i64 0).cells (n * 1)) (hg : g = w.heap.size) (hn : n ≤ 30) : OwnI (w.alloc (.cells ZC 2)) g n (List.replicate n 0) := by
  subst hZ
  exact own_zeros w g n hg hn
theorem madeA {w2 w3 : World} {B B0 cap n : Nat} {q : Option Addr} {Ls : List (List Int)} {vals : List Value} {ZC : Array Value} (hR : RowsM w3 B Ls cap q vals) (hB : B0 ≤ B) (hb : Below B0 w2 w3) (h2 : B0 ≤ w2.heap.size) (hZ : ZC = madeCells (Value.int .i64 0).cells (n * 1)) (hn : n ≤ 30) :
    RowsM (w3.alloc (.cells ZC 2)) B0 Ls cap q vals ∧ OwnI (w3.alloc (.cells ZC 2)) w3.heap.size n (List.replicate n 0) ∧ B0 ≤ w3.heap.size ∧ ApartR vals w3.heap.size ∧ Below B0 w2 (w3.alloc (.cells ZC 2)) :=
  ⟨rowsM_less (hR.kept (fun i _ h => heap_alloc_old _ _ _ h)) hB, own_zerosZ w3 _ n hZ rfl hn, by have := hb.size; omega, fun i g m c h => by have := (rowsM_blk hR h).2; omega, hb.alloc (by have := hb.size; omega) _⟩
theorem madeB {w1 w2 w3 : World} {B0 cap n : Nat} {q : Option Addr} {Ls : List (List Int)} {vals : List Value} (hb : Below w1.heap.size w1 w3) (hR : RowsM w3 w1.heap.size Ls cap q vals) (h1 : OwnI w1 B0 n (List.replicate n 0)) (hb2 : Below B0 w2 w3) :
    RowsM w3 B0 Ls cap q vals ∧ OwnI w3 B0 n (List.replicate n 0) ∧ B0 ≤ B0 ∧ ApartR vals B0 ∧ Below B0 w2 w3 :=
  ⟨rowsM_less hR (by have := h1.lt; omega), h1.on hb, Nat.le_refl _, fun i g m c h => by have := (rowsM_blk hR h).1; have := h1.lt; omega, hb2⟩

set_option maxRecDepth 100000 in
set_option maxHeartbeats 16000000 in
theorem sColouringOf_yes (N b off n c : Nat) (ps : Option Addr) (m f0 : Nat) (es : List (Int × Int)) (xs : List Int) (w : World) (hn : es.length = n) (hr : ReadsE w b off es) (g : IsG N es) (hx : xs.length = m) (hm9 : m ≤ 1048576) (hrx : SeesI w ps xs) (hmt : isMatP N es xs) :
    Calls Try.prog 16 #[.agg #[.int .i64 N, .slice (some ⟨b, off, none⟩) n c], .slice ps m f0] w fun e' w' => ∃ q cap, e' = .returned (.tuple #[.slice q (if evenP (cyU es (freeB es xs) (nxF es xs) n) then (pstL n (cyU es (freeB es xs) (nxF es xs) n) (cyU es (freeB es xs) (nxF es xs) n).length, (0 : Int)) else ([], 4)).1.length cap, .int .i64 (if evenP (cyU es (freeB es xs) (nxF es xs) n) then (pstL n (cyU es (freeB es xs) (nxF es xs) n) (cyU es (freeB es xs) (nxF es xs) n).length, (0 : Int)) else ([], 4)).2]) ∧ FreshI w.heap.size w' q (if evenP (cyU es (freeB es xs) (nxF es xs) n) then (pstL n (cyU es (freeB es xs) (nxF es xs) n) (cyU es (freeB es xs) (nxF es xs) n).length, (0 : Int)) else ([], 4)).1.length cap (if evenP (cyU es (freeB es xs) (nxF es xs) n) then (pstL n (cyU es (freeB es xs) (nxF es xs) n) (cyU es (freeB es xs) (nxF es xs) n).length, (0 : Int)) else ([], 4)).1 ∧ Below w.heap.size w w' := by
  have hn30 : n ≤ 30 := by have := isG_len g; omega
  have hK30 : (cyU es (freeB es xs) (nxF es xs) n).length ≤ 30 := by have := cyU_len es (freeB es xs) (nxF es xs) n; omega
  have T := twoF g hmt
  have hed : ∀ j i, j < (cyU es (freeB es xs) (nxF es xs) n).length → i < (lR (cyU es (freeB es xs) (nxF es xs) n) j).length → ∃ f : Nat, eI (lR (cyU es (freeB es xs) (nxF es xs) n) j) i = f ∧ f < n := fun j i hj hi => by
    have h := cyU_edges T hj hi
    rwa [hn] at h
  obtain ⟨Ls, hLs⟩ : ∃ Ls, Ls = cyU es (freeB es xs) (nxF es xs) n := ⟨_, rfl⟩
  rw [← hLs] at hK30 hed ⊢
  have HLs := hid hLs
  obtain ⟨K, hK⟩ : ∃ K, Ls.length = K := ⟨_, rfl⟩
  rw [hK] at hK30 hed ⊢
  have HK := hid hK
  obtain ⟨R, hRR⟩ : ∃ R, R = (if evenP Ls then (pstL n Ls K, (0 : Int)) else ([], 4)) := ⟨_, rfl⟩
  rw [← hRR]
  have HRR := hid hRR
  clear hK hRR
  have HEd := hid hed
  have Hn := hid hn
  have Hr := hid hr
  have Hx := hid hx
  have Hrx := hid hrx
  have G := hid g
  have Hmt := hid hmt
  obtain ⟨i0, hi, hz0, hz1, hz2⟩ := info_parts infoInt
  have HC0 := hid (show matCode N es xs = 0 by unfold matCode; rw [if_pos g, if_pos hmt])
  have hmk : ∀ w', (Instr.makeSlice 25 (.int .i64 n) (.int .i64 n)).run Try.prog w' = .ok (.slice (some ⟨w'.heap.size, 0, none⟩) n n) (w'.alloc (.cells (madeCells (Value.int .i64 0).cells (n * 1)) 2)) := fun w' => by
    have h := run_makeSlice (P := Try.prog) w' 25 2 i0 (.int .i64 0) Try.underlying25 hi hz0 .i64 .i64 n n (by omega) (Int.le_refl _) (by rw [hz1]; omega) (by rw [hz2]; omega) (by omega)
    rw [hz1] at h
    simpa using h
  obtain ⟨ZC, hZC⟩ : ∃ ZC, ZC = madeCells (Value.int .i64 0).cells (n * 1) := ⟨_, rfl⟩
  have HZC := hid hZC
  rw [← hZC] at hmk
  clear hn hr hx hrx g hmt hLs hi hed T hZC
  go_enter Try.func16, Try.ntmps16
  go_wp2_with fail
  refine (sMatCode_any _ _ _ _ _ _ _ es xs _ (by omega) Hn.out (SeesE.on (.inr ⟨b, off, rfl, Hr.out⟩) (on_alloc _ _)) hm9 Hx.out (Hrx.out.on (on_alloc _ _))).mono ?_
  rw [HC0.out]
  rintro e w2 ⟨rfl, hb2⟩
  have hX2 := (Box.new w N (some ⟨b, off, none⟩) n c 31).on hb2
  have hx2 := hX2.1
  have hy2' := hX2.2
  have hz2 : w.heap.size < w2.heap.size := hX2.lt
  have HB2 := hid (bfrom (w := w) (by go_grown) hb2)
  clear hb2 hX2
  go_upto_region 4 with fail
  go_cut [7, 8] (fun u v wx => ∃ (q : Option Addr) (cap gO : Nat) (vals : List Value), u = .slice q K cap ∧ v = .slice (some ⟨gO, 0, none⟩) n n ∧ Hid (RowsM wx w2.heap.size Ls cap q vals ∧ OwnI wx gO n (List.replicate n 0) ∧ w2.heap.size ≤ gO ∧ ApartR vals gO ∧ Below w2.heap.size w2 wx))
  case first =>
    go_region_with (go_at_call 22; refine (sCyclesL_any N b off n c ps m f0 es xs _ Hn.out ?_ G.out Hx.out hm9 ?_ Hmt.out).mono ?_; (exact (Hr.out.on HB2.out).on (by have := Below.refl w2.heap.size w2; go_grown)); (exact (Hrx.out.on HB2.out).on (by have := Below.refl w2.heap.size w2; go_grown)); rw [← HLs.out, HK.out]; rintro e w3 ⟨q3, cap3, vals, rfl, hR, hb3⟩; have hb3' : Below w2.heap.size w2 w3 := bfrom (by have := Below.refl w2.heap.size w2; go_grown) hb3; have hx3 := ((bcells hb3').1 _ _ hz2).trans hx2; have hy3 := ((bcells hb3').1 _ _ hz2).trans hy2')
    all_goals
      go_wp2_with fail
      go_meet
      first
        | exact ⟨q3, cap3, w3.heap.size, vals, rfl, rfl, hid (madeA hR (by simp) hb3' (Nat.le_refl _) HZC.out hn30)⟩
        | exact ⟨q3, cap3, w2.heap.size, vals, rfl, rfl, hid (madeB hb3 hR (by exact own_zerosZ w2 _ n HZC.out rfl hn30) hb3')⟩
  case rest =>
  obtain ⟨q3, cap3, gO, vals, rfl, rfl, hcb⟩ := hcut
  obtain ⟨w4, rfl⟩ : ∃ w4, w4 = wc := ⟨_, rfl⟩
  have HR := hid hcb.out.1
  have HO := hid hcb.out.2.1
  have HgO := hid hcb.out.2.2.1
  have HAp := hid hcb.out.2.2.2.1
  have HB4 := hid (bfrom HB2.out hcb.out.2.2.2.2)
  clear hcb hx2 hy2'
  by_cases hev : evenP Ls
  · have ho0 : oddN Ls K = 0 := (oddN_zero Ls K).2 (fun i hi => hev i (by rw [HK.out]; exact hi))
    rw [if_pos hev] at HRR
    have HO0 := hid ho0
    clear hev ho0
    go_wp2_with (go_at_call 30; refine (sOdd_any q3 K cap3 _ Ls vals _ HK.out hK30 HR.out).mono ?_; rw [HO0.out]; rintro e5 w5 ⟨rfl, rfl⟩)
    have hgz := HO.out.lt
    go_loopw [9] (fun iv wr => ∃ i : Nat, i ≤ K ∧ iv = .int .i64 i ∧ Hid (OwnI wr gO n (pstL n Ls i)) ∧ Hid (Kept (fun j => j ≠ gO) w4 wr)) (fun iv _ => K - (intOf iv).toNat)
    case atStart => exact ⟨0, Nat.zero_le _, rfl, hid HO.out, hid (Kept.refl _ _)⟩
    case round =>
      obtain ⟨i, hi, rfl, hOi, hKi⟩ := hrel
      by_cases hlt : i < K
      · obtain ⟨gL, gr, cr, rfl, hc, hgL, hgr, hOr, hvi⟩ := rowsM_at HR.out (i := i) (by rw [HK.out]; exact hlt)
        have hgLO : gL ≠ gO := fun e => row_nei HR.out.1 HO.out (by rw [← e]; rfl)
        have hgrO := HAp.out i gr _ cr hvi
        have hEd := HEd.out i
        have hnx := pstL_succ n Ls i
        obtain ⟨L, hL⟩ : ∃ L, lR Ls i = L := ⟨_, rfl⟩
        rw [hL] at hc hOr hEd hnx
        obtain ⟨X, hX⟩ : ∃ X, L.length = X := ⟨_, rfl⟩
        rw [hX] at hc hEd hnx
        obtain ⟨D, hD⟩ : ∃ D, pstL n Ls i = D := ⟨_, rfl⟩
        rw [hD] at hnx hOi
        have HX := hid hX
        have HNx := hid hnx
        have HE := hid (fun k hk => hEd k hlt hk)
        have HDl := hid (show D.length = n by rw [← hD]; exact pstL_len n Ls i)
        have HOr := hid hOr
        have HC := hid hc
        have HgLO := hid hgLO
        have HgrO := hid hgrO
        have hX9 : X ≤ 9223372036854775807 := by
          obtain ⟨cur, _, _, h1, h2, _⟩ := hOr
          rw [hX] at h1
          unfold maxLen at h2
          omega
        have hgrz := hOr.lt
        clear hL hX hD hnx hEd hOr hc hgLO hgrO hvi
        obtain ⟨wo, rfl⟩ : ∃ wo : World, wo = wr := ⟨_, rfl⟩
        go_wp2
        go_loopw [10] (fun kv wr => ∃ k : Nat, k ≤ X ∧ kv = .int .i64 k ∧ Hid (OwnI wr gO n (pstU D L k)) ∧ Hid (Kept (fun j => j ≠ gO) w4 wr)) (fun kv _ => X - (intOf kv).toNat)
        case atStart => exact ⟨0, Nat.zero_le _, rfl, hOi, hKi⟩
        case round =>
          obtain ⟨k, hk, rfl, hOk, hKk⟩ := hrel
          have hcL := (World.cell?_of_block (a := ⟨gL, i, none⟩) (hKk.out.same gL HgLO.out hgL)).trans HC.out
          have hgLk : gL < wr.heap.size := by have := hKk.out.size; omega
          by_cases hltk : k < X
          · obtain ⟨F, hF, hFn⟩ := HE.out k hltk
            have hcr := (World.cell?_of_block (a := ⟨gr, k, none⟩) (hKk.out.same gr HgrO.out hgrz)).trans (HOr.out.cellK (i := k) (by rw [HX.out]; exact hltk))
            rw [hF] at hcr
            have hgrk : gr < wr.heap.size := by have := hKk.out.size; omega
            have hFn' : (F : Int) < (n : Int) := by omega
            have hPl : (pstU D L k).length = n := by rw [pstU_len, HDl.out]
            have hco := hOk.out.cellK (i := F) (by rw [hPl]; exact hFn)
            have hfo := hOk.out.free F
            have hgO := hOk.out.lt
            have HS := hid (show (pstU D L k).set F (1 + ((k : Int) % 2)) = pstU D L (k + 1) by rw [pstU_succ, hF, Int.toNat_natCast])
            have HPl := hid hPl
            have e3 : IntKind.i64.wrap (1 + (k : Int) % 2) = 1 + (k : Int) % 2 := IntWalk.i64_in _ (by omega)
            have e4 : ((k : Int)).tmod 2 = (k : Int) % 2 := Int.tmod_eq_emod_of_nonneg (by omega)
            clear hF hPl
            go_wp2
            go_roundw
            case rel => exact ⟨k + 1, by omega, by go_num, hid (by rw [← HS.out]; exact hOk.out.set (by rw [HPl.out]; exact hFn) _), hid (hKk.out.set (a := ⟨gO, F, none⟩) (fun h => h rfl) _)⟩
            case measure => simp [intOf]; omega
          · obtain rfl : k = X := by omega
            go_wp2
            go_roundw
            case rel => exact ⟨i + 1, by omega, by go_num, hid (by rw [HNx.out]; exact hOk.out), hKk⟩
            case measure => simp [intOf]; omega
      · obtain rfl : i = K := by omega
        go_wp2
        go_ret2
        have h := HRR.out
        subst h
        dsimp only
        rw [pstL_len]
        exact ⟨some ⟨gO, 0, none⟩, n, rfl, FreshI.of_own hOi.out (pstL_len _ _ _) (by have := HgO.out; omega), HB4.out.trans (hKi.out.below (fun j hj => by have := HgO.out; omega) HB4.out.size)⟩
  · have ho0 : ¬ oddN Ls K = 0 := fun h => hev (fun i hi => (oddN_zero Ls K).1 h i (by rw [← HK.out]; exact hi))
    rw [if_neg hev] at HRR
    obtain ⟨o, ho⟩ : ∃ o, oddN Ls K = o := ⟨_, rfl⟩
    rw [ho] at ho0
    have ho1 : 0 < o := by omega
    have HO0 := hid ho
    clear hev ho0 ho
    go_wp2_with (go_at_call 30; refine (sOdd_any q3 K cap3 _ Ls vals _ HK.out hK30 HR.out).mono ?_; rw [HO0.out]; rintro e5 w5 ⟨rfl, rfl⟩)
    go_ret2
    have h := HRR.out
    subst h
    exact ⟨none, 0, rfl, FreshI.nil _ _, HB4.out⟩

end Go.Proofs.Ythncgpbgffbpgaa
