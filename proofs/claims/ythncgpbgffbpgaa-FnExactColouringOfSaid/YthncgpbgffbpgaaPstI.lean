/- ColouringOf in the program. -/
import Derived.Test.YthncgpbgffbpgaaCycL
import Derived.Test.YthncgpbgffbpgaaPstA
namespace Go.Proofs.Ythncgpbgffbpgaa
open Go.RowKit Go.Shelf

attribute [local go_sem] Oper.semAt_some

theorem results_colour {fn : Func} {p q : Tmp} (h : fn.results = #[.cell p 25, .cell q 2]) (tmps : Array Value) (w : World) (g1 g2 : Nat) (a : Option Addr) (n c : Nat) (y : Int) (h1 : tmps.getD p undef = .pointer (some ⟨g1, 0, none⟩)) (h2 : tmps.getD q undef = .pointer (some ⟨g2, 0, none⟩)) (hx : Boxed w g1 25 (.slice a n c)) (hy : Boxed w g2 2 (.int .i64 y)) :
    (results fn tmps).run Try.prog w = .ok (.tuple #[.slice a n c, .int .i64 y]) w := by
  have e1 : tmps[p]?.getD undef = .pointer (some ⟨g1, 0, none⟩) := by simpa using h1
  have e2 : tmps[q]?.getD undef = .pointer (some ⟨g2, 0, none⟩) := by simpa using h2
  have ha : (isAgg 2).run Try.prog w = .ok false w := by
    unfold isAgg
    rw [Sem.run_bind, run_underlying Try.underlying2 w]
    rfl
  have hb : (isAgg 25).run Try.prog w = .ok false w := by
    unfold isAgg
    rw [Sem.run_bind, run_underlying Try.underlying25 w]
    rfl
  have c1 := hx.cell
  have c2 := hy.cell
  simp [results, h, e1, e2, asAddr, loadVar, Sem.run_bind, ha, hb, c1, c2, Result.andThen]

theorem evenP_pre {es : List (Int × Int)} {ok : Nat → Bool} {nx : Int → Nat → Nat} {n : Nat} (h : evenP (cyU es ok nx n)) : ∀ j k, k + j = n → evenP (cyU es ok nx k) := by
  intro j
  induction j with
  | zero => intro k hk; rw [show k = n by omega]; exact h
  | succ j ih =>
    intro k hk
    have h1 := ih (k + 1) (by omega)
    cases hl : leadC es ok nx k
    · rwa [cyU_no hl] at h1
    · rw [cyU_yes hl] at h1
      exact (evenP_app.1 h1).1
def lsX (pre : List CyX) : List (List Int) := pre.map fun x => x.2.2
theorem lsX_app (pre : List CyX) (x : CyX) : lsX (pre ++ [x]) = lsX pre ++ [x.2.2] := by simp [lsX]
theorem lsX_len (pre : List CyX) : (lsX pre).length = pre.length := by simp [lsX]
theorem own_zerosP {ZC : Array Value} (w : World) (g n : Nat) (hZ : ZC = madeCells (Value.int .i64 0).cells (n * 1)) (hg : g = w.heap.size) (hn : n ≤ 30) : OwnI (w.alloc (.cells ZC 2)) g n (List.replicate n 0) := by
  subst hZ hg
  refine ⟨_, heap_alloc_new w _, by rw [size_madeCells, Nat.mul_one], by simp, by unfold maxLen; omega, fun i hi => ?_⟩
  have hi' : i < n := by simpa using hi
  rw [eI_lt (by simpa using hi')]
  simp [madeCells, hi', Value.cells, Nat.mod_one]

set_option maxRecDepth 100000 in
set_option maxHeartbeats 8000000 in
theorem iColouringOf_yes (N b off n c m f0 : Nat) (ps : Option Addr) (es : List (Int × Int)) (xs : List Int) (w : World) (hn : es.length = n) (hr : ReadsE w b off es) (g : IsG N es) (hx : xs.length = m) (hm9 : m ≤ 1048576) (hrx : SeesI w ps xs) (hmt : isMatP N es xs) :
    Calls Try.prog 17 #[.agg #[.int .i64 N, .slice (some ⟨b, off, none⟩) n c], .slice ps m f0] w fun e' w' => ∃ q cap, e' = .returned (.tuple #[.slice q (if evenP (cyU es (freeB es xs) (nxF es xs) n) then (pstL n (cyU es (freeB es xs) (nxF es xs) n) (cyU es (freeB es xs) (nxF es xs) n).length, (0 : Int)) else ([], 4)).1.length cap, .int .i64 (if evenP (cyU es (freeB es xs) (nxF es xs) n) then (pstL n (cyU es (freeB es xs) (nxF es xs) n) (cyU es (freeB es xs) (nxF es xs) n).length, (0 : Int)) else ([], 4)).2]) ∧ FreshI w.heap.size w' q (if evenP (cyU es (freeB es xs) (nxF es xs) n) then (pstL n (cyU es (freeB es xs) (nxF es xs) n) (cyU es (freeB es xs) (nxF es xs) n).length, (0 : Int)) else ([], 4)).1.length cap (if evenP (cyU es (freeB es xs) (nxF es xs) n) then (pstL n (cyU es (freeB es xs) (nxF es xs) n) (cyU es (freeB es xs) (nxF es xs) n).length, (0 : Int)) else ([], 4)).1 ∧ Below w.heap.size w w' := by
  have hn30 : n ≤ 30 := by have := isG_len g; omega
  have HK30 := hid (show (cyU es (freeB es xs) (nxF es xs) n).length ≤ 30 by have := cyU_len es (freeB es xs) (nxF es xs) n; omega)
  have HPre := hid (show evenP (cyU es (freeB es xs) (nxF es xs) n) → ∀ k, k ≤ n → evenP (cyU es (freeB es xs) (nxF es xs) k) from fun h k hk => evenP_pre h (n - k) k (by omega))
  obtain ⟨R, hRR⟩ : ∃ R, R = (if evenP (cyU es (freeB es xs) (nxF es xs) n) then (pstL n (cyU es (freeB es xs) (nxF es xs) n) (cyU es (freeB es xs) (nxF es xs) n).length, (0 : Int)) else ([], 4)) := ⟨_, rfl⟩
  rw [← hRR]
  have HRR := hid hRR
  have Hn := hid hn
  have Hr := hid hr
  have Hx := hid hx
  have Hrx := hid hrx
  have G := hid g
  have Hmt := hid hmt
  have HC0 := hid (show matCode N es xs = 0 by unfold matCode; rw [if_pos g, if_pos hmt])
  obtain ⟨i0, hi, hz0, hz1, hz2⟩ := info_parts infoInt
  have hmk : ∀ w', (Instr.makeSlice 25 (.int .i64 n) (.int .i64 n)).run Try.prog w' = .ok (.slice (some ⟨w'.heap.size, 0, none⟩) n n) (w'.alloc (.cells (madeCells (Value.int .i64 0).cells (n * 1)) 2)) := fun w' => by
    have h := run_makeSlice (P := Try.prog) w' 25 2 i0 (.int .i64 0) Try.underlying25 hi hz0 .i64 .i64 n n (by omega) (Int.le_refl _) (by rw [hz1]; omega) (by rw [hz2]; omega) (by omega)
    rw [hz1] at h
    simpa using h
  obtain ⟨ZC, hZC⟩ : ∃ ZC, ZC = madeCells (Value.int .i64 0).cells (n * 1) := ⟨_, rfl⟩
  have HZC := hid hZC
  rw [← hZC] at hmk
  have hbb : b < w.heap.size := reads_lt hr (by have := isG_len g; have := g.1.1.2.2.2; have := g.1.1.1; omega)
  clear hn hr hx hrx g hmt hi hRR hZC hz0 hz1 hz2
  refine (callsIn_wide (n := 6)).1 ?_
  refine callsIn_of_wp_marks Try.func17 rfl trivial ?_ rfl
  simp only [Try.ntmps17, List.size_toArray, List.length_cons, List.length_nil, Nat.reduceAdd, Nat.reduceSub, Array.replicate_succ, Array.replicate_zero, List.push_toArray, List.append_toArray, List.nil_append, List.cons_append]
  have HB0 := hid (show Below w.heap.size w (((w.alloc (.cells #[.int .i64 N, .slice (some ⟨b, off, none⟩) n c] 31)).alloc (.cells #[.slice none 0 0] 25)).alloc (.cells #[.int .i64 0] 2)) from bfrom (bfrom (on_alloc _ _) (on_alloc _ _)) (on_alloc _ _))
  have hX0 := ((Box.new w N (some ⟨b, off, none⟩) n c 31).on (on_alloc _ (.cells #[.slice none 0 0] 25))).on (on_alloc _ (.cells #[.int .i64 0] 2))
  have hR4 := (Boxed.new (w.alloc (.cells #[.int .i64 N, .slice (some ⟨b, off, none⟩) n c] 31)) 25 (.slice none 0 0)).alloc (.cells #[.int .i64 0] 2)
  have hR5 := Boxed.new ((w.alloc (.cells #[.int .i64 N, .slice (some ⟨b, off, none⟩) n c] 31)).alloc (.cells #[.slice none 0 0] 25)) 2 (.int .i64 0)
  simp only [World.size_alloc] at hR4 hR5
  have HX0 := hid hX0
  have HR4 := hid hR4
  have HR5 := hid hR5
  clear hX0 hR4 hR5
  gi_wp2_with (first
    | (refine ⟨trivial, ?_⟩; gi_at_call 25; refine (callsIn_wide.2 (iMatCode_any _ _ _ _ _ _ _ es xs _ (by omega) Hn.out (.inr ⟨b, off, rfl, Hr.out.on HB0.out⟩) hm9 Hx.out (Hrx.out.on HB0.out))).mono ?_; rw [HC0.out]; rintro e w2 ⟨rfl, hb2⟩; have hX2 := HX0.out.on hb2; have hx2 := hX2.1; have hy2 := hX2.2; have hz2' := hX2.lt)
    | (refine ⟨trivial, ?_⟩; gi_at_call 26; refine (callsIn_wide.2 (iLeft_func _ _ _ _ _ _ _ _)).mono ?_; rintro e w' ⟨rfl, rfl⟩))
  have HB2 := hid (bfrom HB0.out hb2)
  have hz2s : w.heap.size + 3 ≤ w2.heap.size := by have := hb2.size; simp at this; omega
  have HQ4 := hid (show Boxed w2 (w.heap.size + 1) 25 (.slice none 0 0) from (hb2.block (w.heap.size + 1) (by simp)).trans HR4.out)
  have HQ5 := hid (show Boxed w2 (w.heap.size + 1 + 1) 2 (.int .i64 0) from (hb2.block (w.heap.size + 1 + 1) (by simp)).trans HR5.out)
  clear hb2 hx2 hy2 hz2' HR4 HR5 HX0
  have hbG := (Box.new ((w2.alloc (.cells ZC 2)).alloc (.cells #[.slice (some ⟨w2.heap.size, 0, none⟩) n n] 25)) N (some ⟨b, off, none⟩) n c 31).on (on_alloc _ (.cells #[.slice ps m f0] 25))
  have hbL := (Boxed.new (((w2.alloc (.cells ZC 2)).alloc (.cells #[.slice (some ⟨w2.heap.size, 0, none⟩) n n] 25)).alloc (.cells #[.int .i64 N, .slice (some ⟨b, off, none⟩) n c] 31)) 25 (.slice ps m f0)).cell
  have hB0 : Below w2.heap.size w2 ((((w2.alloc (.cells ZC 2)).alloc (.cells #[.slice (some ⟨w2.heap.size, 0, none⟩) n n] 25)).alloc (.cells #[.int .i64 N, .slice (some ⟨b, off, none⟩) n c] 31)).alloc (.cells #[.slice ps m f0] 25)) := bfrom (bfrom (bfrom (on_alloc _ _) (on_alloc _ _)) (on_alloc _ _)) (on_alloc _ _)
  have bO := ((Boxed.new (w2.alloc (.cells ZC 2)) 25 (.slice (some ⟨w2.heap.size, 0, none⟩) n n)).alloc (.cells #[.int .i64 N, .slice (some ⟨b, off, none⟩) n c] 31)).alloc (.cells #[.slice ps m f0] 25)
  have oC := ((((own_zerosP w2 w2.heap.size n HZC.out rfl hn30).alloc (.cells #[.slice (some ⟨w2.heap.size, 0, none⟩) n n] 25)).alloc (.cells #[.int .i64 N, .slice (some ⟨b, off, none⟩) n c] 31)).alloc (.cells #[.slice ps m f0] 25))
  simp only [World.size_alloc] at hbG hbL bO
  refine rangeFunc_moves (n := 6) rfl (by omega) (gf := 41) (lb := #[.pointer (some ⟨w2.heap.size + 1 + 1, 0, none⟩), .pointer (some ⟨w2.heap.size + 1 + 1 + 1, 0, none⟩)]) rfl trivial (enters_of Try.func41 (by kernel_rfl) rfl) (A := w2.heap.size + 6) (by simp)
    (cycles_moves 4 w2.heap.size (w2.heap.size + 6) (w2.heap.size + 1 + 1) (w2.heap.size + 1 + 1 + 1) N b off n c m f0 ps es xs _ (by simp; omega) (by simp) (by simp) (by simp) Hn.out (by omega) ((Hr.out.on HB2.out).on hB0) G.out Hx.out hm9 ((Hrx.out.on HB2.out).on hB0) Hmt.out hbG.1 hbG.2 hbL)
    (fun h k => h.trans k) (fun W l o o' h1 h2 hl ho => (Kept.refl _ W).row (grownBy_putObj' W l o') (fun r e h => by cases e; simp at h1; omega))
    (fun Y Z i o h h1 h2 ho => (h.same i (by omega) (Array.getElem?_eq_some_iff.1 ho).1).trans ho) (fun Y Z h => h.size) (fun x W l o o' h _ _ hl ho => ⟨seesI_putObj h.1 hl ho, h.2⟩) (Below.refl _ _) (fun _ => rfl)
    (fun (pre : List CyX) W => Boxed W (w2.heap.size + 1) 25 (.slice (some ⟨w2.heap.size, 0, none⟩) n n) ∧ OwnI W w2.heap.size n (pstL n (lsX pre) pre.length) ∧ evenP (lsX pre) ∧ Below w2.heap.size w2 W)
    (fun c' pre W => c' = .ret ∧ ¬ evenP (lsX pre) ∧ Boxed W (w.heap.size + 1) 25 (.slice none 0 0) ∧ Boxed W (w.heap.size + 1 + 1) 2 (.int .i64 4) ∧ Below w.heap.size w W)
    (fun s X Y row h hg hr => ⟨h.1.kept hg (fun e => by have := (hr _ e.symm).1; simp at this; omega), h.2.1.keep (hg.block _ h.2.1.lt (fun e => by have := (hr _ e.symm).1; simp at this; omega)), h.2.2.1, h.2.2.2.grown hg h.2.2.2.size (fun k e => by have := (hr _ e).1; simp at this; omega)⟩)
    (fun c' s X Y row h hg hr => ⟨h.1, h.2.1, h.2.2.1.kept hg (fun e => by have := (hr _ e.symm).1; simp at this; omega), h.2.2.2.1.kept hg (fun e => by have := (hr _ e.symm).1; simp at this; omega), h.2.2.2.2.grown hg h.2.2.2.2.size (fun k e => by have := (hr _ e).1; simp at this; omega)⟩)
    (fun s Y Z h hm => ⟨box_moved h.1 hm (by omega), h.2.1.keep (hm.same _ (by omega) h.2.1.lt), h.2.2.1, h.2.2.2.trans (hm.below (fun i hi => by omega) h.2.2.2.size)⟩)
    (fun c' s Y Z h hm => ⟨h.1, h.2.1, box_moved h.2.2.1 hm (by omega), box_moved h.2.2.2.1 hm (by omega), h.2.2.2.2.trans (hm.below (fun i hi => by omega) h.2.2.2.2.size)⟩)
    ⟨bO, oC, fun i hi => by simp [lsX] at hi, hB0⟩
    ?a1 ?assign ?body ?done ?stop
  case assign =>
    intro l x W K hK
    gi_wp2
    exact hK
  case body =>
    rintro l pre ⟨qx, capx, L⟩ W ⟨hu, hO, hev, hB⟩ ⟨hX, hXA, hXn, hXE⟩ hA hlt
    have hc := hu.cell
    have huz := hu.lt
    have hq4 : Boxed W (w.heap.size + 1) 25 (.slice none 0 0) := (hB.block _ (by omega)).trans HQ4.out
    have hq5 : Boxed W (w.heap.size + 1 + 1) 2 (.int .i64 0) := (hB.block _ (by omega)).trans HQ5.out
    have hc4 := hq4.cell
    have hc5 := hq5.cell
    have hf4 := hq4.frozen
    have hf5 := hq5.frozen
    have hz4 := hq4.lt
    have hz5 := hq5.lt
    have HX1 := hid (show SeesI W qx L from hX)
    have HXA := hid (show ∀ gx ox, qx = some ⟨gx, ox, none⟩ → w2.heap.size + 6 ≤ gx from hXA)
    have hXn' : L.length ≤ n := hXn
    have HXE := hid (show ∀ i, i < L.length → ∃ f : Nat, eI L i = f ∧ f < n from hXE)
    have HEv := hid hev
    obtain ⟨X, hXl⟩ : ∃ X, L.length = X := ⟨_, rfl⟩
    have HXl := hid hXl
    dsimp only
    rw [hXl] at hXn' ⊢
    have hX9 : X ≤ 9223372036854775807 := by omega
    have e4 : ((X : Int)).tmod 2 = (X : Int) % 2 := Int.tmod_eq_emod_of_nonneg (by omega)
    clear hX hXE hev hXl hXA hXn
    by_cases hodd : X % 2 = 0
    · have h1' : (((X : Int) % 2) != 0) = false := by simp; omega
      have HOdd := hid hodd
      clear hodd
      gi_wp2
      obtain ⟨D, hD⟩ : ∃ D, pstL n (lsX pre) pre.length = D := ⟨_, rfl⟩
      have HDl := hid (show D.length = n by rw [← hD]; exact pstL_len _ _ _)
      have HNx := hid (show pstL n (lsX (pre ++ [(qx, capx, L)])) (pre ++ [(qx, capx, L)]).length = pstU D L X by
        have h := pstL_push (n := n) (Ls := lsX pre) (x := L)
        rw [lsX_len] at h
        rw [← hD, ← HXl.out, ← h, lsX_app, ← lsX_len (pre ++ [(qx, capx, L)]), lsX_app])
      have hO' : Hid (OwnI W w2.heap.size n D) := hid (by rw [← hD]; exact hO)
      have HB := hid hB
      have HU := hid hu
      clear hD hO hB hc hc4 hc5 hf4 hf5 hq4 hq5 hu
      gi_loopw [31] (fun iv wr => ∃ i : Nat, i ≤ X ∧ iv = .int .i64 i ∧ Hid (OwnI wr w2.heap.size n (pstU D L i)) ∧ Hid (Kept (fun j => j ≠ w2.heap.size) W wr)) (fun iv _ => X - (intOf iv).toNat)
      case atStart => exact ⟨0, Nat.zero_le _, rfl, hO', hid (Kept.refl _ _)⟩
      case round =>
        obtain ⟨i, hi, rfl, hOi, hKi⟩ := hrel
        by_cases hlt2 : i < X
        · obtain ⟨gx, ox, rfl, hrd⟩ : ∃ gx ox, qx = some ⟨gx, ox, none⟩ ∧ ReadsI W gx ox L := by
            rcases HX1.out with h | h
            · have := HXl.out; rw [h] at this; simp at this; omega
            · exact h
          have hgx := HXA.out gx ox rfl
          have hgxW : gx < W.heap.size := hrd.lt (by have := HXl.out; omega)
          have hc1 := (World.cell?_of_block (a := ⟨gx, ox + i, none⟩) (hKi.out.same gx (by omega) hgxW)).trans (hrd i (by have := HXl.out; omega))
          obtain ⟨F, hF, hFn⟩ := HXE.out i (by have := HXl.out; omega)
          rw [hF] at hc1
          have hgxr : gx < wr.heap.size := by have := hKi.out.size; omega
          have hFn' : (F : Int) < (n : Int) := by omega
          have hub : Boxed wr (w2.heap.size + 1) 25 (.slice (some ⟨w2.heap.size, 0, none⟩) n n) := (hKi.out.same (w2.heap.size + 1) (by omega) HU.out.lt).trans HU.out
          have hcb := hub.cell
          have hzb := hub.lt
          have hPl : (pstU D L i).length = n := by rw [pstU_len, HDl.out]
          have hco := hOi.out.cellK (i := F) (by rw [hPl]; exact hFn)
          have hfo := hOi.out.free F
          have hgO := hOi.out.lt
          have HS := hid (show (pstU D L i).set F (1 + ((i : Int) % 2)) = pstU D L (i + 1) by rw [pstU_succ, hF, Int.toNat_natCast])
          have HPl := hid hPl
          have e5 : IntKind.i64.wrap (1 + (i : Int) % 2) = 1 + (i : Int) % 2 := IntWalk.i64_in _ (by omega)
          have e6 : ((i : Int)).tmod 2 = (i : Int) % 2 := Int.tmod_eq_emod_of_nonneg (by omega)
          clear hF hPl hub hrd hgx
          gi_wp2
          go_roundw
          case rel => exact ⟨i + 1, by omega, by go_num, hid (by rw [← HS.out]; exact hOi.out.set (by rw [HPl.out]; exact hFn) _), hid (hKi.out.set (a := ⟨w2.heap.size, F, none⟩) (fun h => h rfl) _)⟩
          case measure => simp [intOf]; omega
        · obtain rfl : i = X := by omega
          gi_wp2
          refine ⟨⟨hKi.out.size, fun k o hBk hk _ => (hKi.out.same k (by simp at hBk; omega) (Array.getElem?_eq_some_iff.1 hk).1).trans hk⟩, hKi.out.mono (fun j hj => by omega), (hKi.out.same (w2.heap.size + 1) (by omega) HU.out.lt).trans HU.out, ?_, ?_, HB.out.trans (hKi.out.below (fun j hj => by omega) HB.out.size)⟩
          · rw [HNx.out]; exact hOi.out
          · rw [lsX_app]
            exact evenP_app.2 ⟨HEv.out, by rw [show (((qx, capx, L) : CyX).2.2).length = L.length from rfl, HXl.out]; exact HOdd.out⟩
    · have h1' : (((X : Int) % 2) != 0) = true := by simp; omega
      have HOdd := hid hodd
      clear hodd
      gi_wp2
      refine ⟨((KeepsOthers.setCell W _ _).trans (KeepsOthers.setCell _ _ _)).from _, rfl, ?_, ?_, ?_, ?_⟩
      · rw [lsX_app]
        exact fun h => HOdd.out (by have h2 := (evenP_app.1 h).2; rw [show (((qx, capx, L) : CyX).2.2).length = L.length from rfl, HXl.out] at h2; exact h2)
      · exact (Boxed.set _ hq4).other (by omega) _
      · exact Boxed.set _ (hq5.other (by omega) _)
      · exact ((bfrom HB2.out hB).setCell (p := ⟨w.heap.size + 1, 0, none⟩) (by show w.heap.size ≤ w.heap.size + 1; omega) _).setCell (p := ⟨w.heap.size + 1 + 1, 0, none⟩) (by show w.heap.size ≤ w.heap.size + 1 + 1; omega) _
  case done =>
    rintro D ys W hD hS ⟨hu, hO, hev, hB⟩ hK
    have hSx : lsX ys = cyU es (freeB es xs) (nxF es xs) n := hS
    have hyl : ys.length = (cyU es (freeB es xs) (nxF es xs) n).length := by rw [← hSx, lsX_len]
    rw [hSx, hyl] at hO
    rw [hSx] at hev
    have HRe := HRR.out
    rw [if_pos hev] at HRe
    have HRE := hid HRe
    have HO := hid hO
    have hc := hu.cell
    have huz := hu.lt
    have hq4 : Boxed W (w.heap.size + 1) 25 (.slice none 0 0) := (hB.block _ (by omega)).trans HQ4.out
    have hq5 : Boxed W (w.heap.size + 1 + 1) 2 (.int .i64 0) := (hB.block _ (by omega)).trans HQ5.out
    have hc4 := hq4.cell
    have hc5 := hq5.cell
    have hf4 := hq4.frozen
    have hf5 := hq5.frozen
    have hz4 := hq4.lt
    have hz5 := hq5.lt
    have hDH : w2.heap.size + 4 ≤ D := by simp at hD; omega
    have HDD := hid hDH
    clear hSx hyl hO hev HRe hS hD
    gi_wp2
    have b4 : Boxed ((W.setCell ⟨w.heap.size + 1, 0, none⟩ (.slice (some ⟨w2.heap.size, 0, none⟩) n n)).setCell ⟨w.heap.size + 1 + 1, 0, none⟩ (.int .i64 0)) (w.heap.size + 1) 25 (.slice (some ⟨w2.heap.size, 0, none⟩) n n) := (Boxed.set _ hq4).other (by omega) _
    have b5 : Boxed ((W.setCell ⟨w.heap.size + 1, 0, none⟩ (.slice (some ⟨w2.heap.size, 0, none⟩) n n)).setCell ⟨w.heap.size + 1 + 1, 0, none⟩ (.int .i64 0)) (w.heap.size + 1 + 1) 2 (.int .i64 0) := Boxed.set _ (hq5.other (by omega) _)
    have hKD : ((W.setCell ⟨w.heap.size + 1, 0, none⟩ (.slice (some ⟨w2.heap.size, 0, none⟩) n n)).setCell ⟨w.heap.size + 1 + 1, 0, none⟩ (.int .i64 0)).heap[D]? = some (.deferred (some [])) := (heap_setCell_other _ _ D _ (by show D ≠ w.heap.size + 1 + 1; omega)).trans ((heap_setCell_other _ _ D _ (by show D ≠ w.heap.size + 1; omega)).trans hK)
    refine ⟨by simp, .inl ⟨_, _, rfl, run_takeDeferred hKD, ?_⟩⟩
    have hBw : Below w.heap.size w ((W.setCell ⟨w.heap.size + 1, 0, none⟩ (.slice (some ⟨w2.heap.size, 0, none⟩) n n)).setCell ⟨w.heap.size + 1 + 1, 0, none⟩ (.int .i64 0)) := ((bfrom HB2.out hB).setCell (p := ⟨w.heap.size + 1, 0, none⟩) (by show w.heap.size ≤ w.heap.size + 1; omega) _).setCell (p := ⟨w.heap.size + 1 + 1, 0, none⟩) (by show w.heap.size ≤ w.heap.size + 1 + 1; omega) _
    have hO2 : OwnI ((W.setCell ⟨w.heap.size + 1, 0, none⟩ (.slice (some ⟨w2.heap.size, 0, none⟩) n n)).setCell ⟨w.heap.size + 1 + 1, 0, none⟩ (.int .i64 0)) w2.heap.size n (pstL n (cyU es (freeB es xs) (nxF es xs) n) (cyU es (freeB es xs) (nxF es xs) n).length) := (HO.out.far (a := ⟨w.heap.size + 1, 0, none⟩) (by show w2.heap.size ≠ w.heap.size + 1; omega) _).far (a := ⟨w.heap.size + 1 + 1, 0, none⟩) (by show w2.heap.size ≠ w.heap.size + 1 + 1; omega) _
    have hf := FreshI.of_own (n := n) (B := w.heap.size) hO2 (pstL_len _ _ _) (by omega)
    have hrw := ownsRow_putObj hf.1 (.deferred none) hKD rfl
    have h := HRE.out
    subst h
    dsimp only
    rw [pstL_len]
    exact ⟨_, results_colour rfl _ _ (w.heap.size + 1) (w.heap.size + 1 + 1) _ _ _ _ rfl rfl (b4.kept (grownBy_putObj' _ D (.deferred none)) (fun e => by have := Option.some.inj e; omega)) (b5.kept (grownBy_putObj' _ D (.deferred none)) (fun e => by have := Option.some.inj e; omega)), some ⟨w2.heap.size, 0, none⟩, n, rfl, ⟨hrw, pstL_len _ _ _⟩, hBw.grown (grownBy_putObj' _ D _) hBw.size (fun k e => by have e1 : D = k := Option.some.inj e; omega)⟩
  case stop =>
    rintro D c' pre W hD hpre ⟨rfl, hne, h4, h5, hB⟩ hK
    have hDH : w2.heap.size + 4 ≤ D := by simp at hD; omega
    obtain ⟨k, hk, hpk⟩ := hpre
    have hpx : lsX pre = cyU es (freeB es xs) (nxF es xs) k := hpk
    rw [hpx] at hne
    have HRe := HRR.out
    rw [if_neg (fun h => hne (HPre.out h k hk))] at HRe
    have HRE := hid HRe
    clear hpk hpx hne HRe hD
    gi_wp2
    refine ⟨by simp, .inl ⟨_, _, rfl, run_takeDeferred hK, ?_⟩⟩
    have h := HRE.out
    subst h
    exact ⟨_, results_colour rfl _ _ (w.heap.size + 1) (w.heap.size + 1 + 1) _ _ _ _ rfl rfl (h4.kept (grownBy_putObj' _ D (.deferred none)) (fun e => by have := Option.some.inj e; omega)) (h5.kept (grownBy_putObj' _ D (.deferred none)) (fun e => by have := Option.some.inj e; omega)), none, 0, rfl, FreshI.nil _ _, hB.grown (grownBy_putObj' _ D _) hB.size (fun k e => by have e1 : D = k := Option.some.inj e; omega)⟩

end Go.Proofs.Ythncgpbgffbpgaa
