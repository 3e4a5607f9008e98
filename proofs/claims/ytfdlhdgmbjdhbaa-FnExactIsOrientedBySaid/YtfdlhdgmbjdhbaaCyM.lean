/- The cycles of an even set in the model: l07Cycles. -/
import Derived.Test.YtfdlhdgmbjdhbaaCyX
import Derived.Test.YtfdlhdgmbjdhbaaRowsM
import Derived.Test.YtfdlhdgmbjdhbaaLeadS
import Derived.Test.YtfdlhdgmbjdhbaaLeaveS
import Derived.Test.YtfdlhdgmbjdhbaaEvnS
import Derived.Deep.RegionHeld3
import Derived.Deep.RegionWith
import Derived.Deep.DeepCutAuto
import Derived.Deep.AppendLies
import Derived.Deep.DeepMust
import Derived.BigRegion
import Derived.BigQuiet
import Derived.Outline
namespace Go.Proofs.Ytfdlhdgmbjdhbaa
open Go.RowKit

theorem infoEdM : (Try.prog.info? 57).map (fun i => (i.zero, i.size, i.bytes)) = some (some (.agg #[.int .i64 0, .int .i64 0]), 2, 16) := by kernel_rfl

/-- Blocks of different types are different. -/
theorem ne_types {w : World} {g h : Nat} {a b : Array Value} {s t : TypeId} {f e : Nat × Nat} (hg : w.heap[g]? = some (.cells a s f)) (hh : w.heap[h]? = some (.cells b t e)) (hst : s ≠ t) : g ≠ h := fun e => by
  subst e
  have := Option.some.inj (hg.symm.trans hh)
  injection this with _ h2
  exact hst h2
theorem ne_IB {w : World} {g h c d : Nat} {xs : List Int} {ms : List Bool} (hi : OwnI w g c xs) (hb : OwnB w h d ms) : g ≠ h := by
  obtain ⟨_, h1, _⟩ := hi
  obtain ⟨_, h2, _⟩ := hb
  exact ne_types h1 h2 (by decide)
theorem ne_EB {w : World} {g h c d : Nat} {xs : List (Int × Int)} {ms : List Bool} (hi : OwnE w g c xs) (hb : OwnB w h d ms) : g ≠ h := by
  obtain ⟨_, h1, _⟩ := hi
  obtain ⟨_, h2, _⟩ := hb
  exact ne_types h1 h2 (by decide)
theorem RowsM.others {w w' : World} {B cap h d : Nat} {q : Option Addr} {Ls : List (List Int)} {vals : List Value} {ms : List Bool} (hr : RowsM w B Ls cap q vals) (hb : OwnB w h d ms) (hk : ∀ i, i ≠ h → i < w.heap.size → w'.heap[i]? = w.heap[i]?) : RowsM w' B Ls cap q vals := by
  obtain ⟨h1, h2, h3⟩ := hr
  refine ⟨⟨h1.1, ?_⟩, h2, fun i hi => ?_⟩
  · rcases h1.2 with hn | ⟨g, c, cur, hv, hb', hg, r⟩
    · exact .inl hn
    · obtain ⟨_, h5, _⟩ := hb
      exact .inr ⟨g, c, cur, hv, hb', (hk g (ne_types hg h5 (by decide)) (Array.getElem?_eq_some_iff.1 hg).1).trans hg, r⟩
  · obtain ⟨g, c, e1, e2, e3⟩ := h3 i hi
    exact ⟨g, c, e1, e2, e3.keep (hk g (ne_IB e3 hb) e3.lt)⟩

theorem RowsM.onB {w w' : World} {B cap : Nat} {q : Option Addr} {Ls : List (List Int)} {vals : List Value} (h : RowsM w B Ls cap q vals) (hb : Below w.heap.size w w') : RowsM w' B Ls cap q vals := h.kept fun i _ hl => hb.block i hl
theorem falses_new (w : World) (g m : Nat) (ZC : Array Value) (hz : ZC = madeCells (Value.bool false).cells (m * 1)) (hg : g = w.heap.size) (hm : m ≤ 30) : OwnB (w.alloc (.cells ZC 4)) g m (List.replicate m false) := by
  subst hg
  subst hz
  refine ⟨_, heap_alloc_new w _, by rw [size_madeCells, Nat.mul_one], by simp, by unfold maxLen; omega, fun i hi => ?_⟩
  have hi' : i < m := by simpa using hi
  rw [eL_lt (by simpa using hi')]
  simp [madeCells, hi', Value.cells, Nat.mod_one]
theorem rows_new (w : World) (g B : Nat) (hg : g = w.heap.size) (hB : B ≤ w.heap.size) : RowsM (w.alloc (.cells #[] 41)) B [] 0 (some ⟨g, 0, none⟩) [] := by
  subst hg
  exact RowsM.nil (World.ownsRow_made (base := B) (e := 41) (size := 1) w #[] 0 hB (Nat.zero_le _) rfl)

theorem row_neB {w : World} {B n h d : Nat} {v : Value} {xs : List Value} {ms : List Bool} (hr : w.ownsRow B 41 1 v n xs) (hb : OwnB w h d ms) : some h ≠ v.ownBlock := fun e => by
  rcases hr.2 with ⟨rfl, _⟩ | ⟨g', cap', cur, rfl, _, hg, _⟩
  · simp [Value.ownBlock] at e
  · have e' : h = g' := Option.some.inj e
    subst e'
    obtain ⟨_, h2, _⟩ := hb
    exact ne_types hg h2 (by decide) rfl

/- Marks. -/
def mkX (es : List (Int × Int)) (xs : List Int) (i k : Nat) : List Bool := (List.range xs.length).map fun j => metX es xs i j || (decide (j < k) && joinB es xs i j)
theorem mkX_len (es : List (Int × Int)) (xs : List Int) (i k : Nat) : (mkX es xs i k).length = xs.length := by simp [mkX]
theorem mkX_at {es : List (Int × Int)} {xs : List Int} {i k j : Nat} (hj : j < xs.length) : eL (mkX es xs i k) j = (metX es xs i j || (decide (j < k) && joinB es xs i j)) := by
  rw [eL_lt (by rw [mkX_len]; exact hj)]
  simp [mkX]
theorem bools_extX {xs ys : List Bool} (hl : xs.length = ys.length) (h : ∀ i, i < xs.length → eL xs i = eL ys i) : xs = ys :=
  List.ext_getElem hl fun i h1 h2 => by rw [← eL_lt h1, ← eL_lt h2]; exact h i h1
theorem mkX_zero (es : List (Int × Int)) (xs : List Int) : mkX es xs 0 0 = List.replicate xs.length false := by
  refine bools_extX (by simp [mkX]) fun j hj => ?_
  rw [mkX_len] at hj
  rw [mkX_at hj, eL_lt (by simpa using hj)]
  simp [metX_zero]
theorem mkX_yes {es : List (Int × Int)} {xs : List Int} {i k : Nat} (hk : k < xs.length) (h : joinB es xs i k = true) : (mkX es xs i k).set k true = mkX es xs i (k + 1) := by
  refine bools_extX (by rw [List.length_set, mkX_len, mkX_len]) fun j hj => ?_
  rw [List.length_set, mkX_len] at hj
  rw [eL_set (by rw [mkX_len]; exact hk), mkX_at hj, mkX_at hj]
  by_cases e : j = k
  · subst e
    rw [if_pos rfl, h]
    simp
  · rw [if_neg e]
    by_cases h2 : j < k
    · simp [h2, show j < k + 1 by omega]
    · simp [h2, show ¬ j < k + 1 by omega]
theorem mkX_no {es : List (Int × Int)} {xs : List Int} {i k : Nat} (hk : k < xs.length) (h : joinB es xs i k = false) : mkX es xs i k = mkX es xs i (k + 1) := by
  refine bools_extX (by rw [mkX_len, mkX_len]) fun j hj => ?_
  rw [mkX_len] at hj
  rw [mkX_at hj, mkX_at hj]
  by_cases e : j = k
  · subst e
    rw [h]
    simp
  · by_cases h2 : j < k
    · simp [h2, show j < k + 1 by omega]
    · simp [h2, show ¬ j < k + 1 by omega]
section
variable {N : Nat} {es : List (Int × Int)} {xs : List Int}
theorem mkX_start (g : IsG N es) (gs : isSetP es.length xs) (he : evenP N es xs) {i : Nat} (hi : i < xs.length) (hm : metX es xs i i = false) : mkX es xs i 0 = mkX es xs i i := by
  refine bools_extX (by rw [mkX_len, mkX_len]) fun j hj => ?_
  rw [mkX_len] at hj
  rw [mkX_at hj, mkX_at hj]
  by_cases h2 : j < i
  · rw [join_before g gs he hi h2 hm]
    simp
  · simp [h2]
theorem mkX_end {i : Nat} : mkX es xs i xs.length = mkX es xs (i + 1) 0 := by
  refine bools_extX (by rw [mkX_len, mkX_len]) fun j hj => ?_
  rw [mkX_len] at hj
  rw [mkX_at hj, mkX_at hj, metX_succ]
  simp [hj]
theorem mkX_old (g : IsG N es) (gs : isSetP es.length xs) (he : evenP N es xs) {i : Nat} (hi : i < xs.length) (hm : metX es xs i i = true) : mkX es xs i 0 = mkX es xs (i + 1) 0 := by
  refine bools_extX (by rw [mkX_len, mkX_len]) fun j hj => ?_
  rw [mkX_len] at hj
  rw [mkX_at hj, mkX_at hj, metX_old g gs he hi hj hm]
  simp
def grpP (es : List (Int × Int)) (xs : List Int) (i k : Nat) : List Int := ((List.range k).filter (joinB es xs i)).map (eI xs)
theorem grpP_yes {i k : Nat} (h : joinB es xs i k = true) : grpP es xs i (k + 1) = grpP es xs i k ++ [eI xs k] := by
  unfold grpP
  rw [List.range_succ, List.filter_append, List.map_append]
  simp [h]
theorem grpP_no {i k : Nat} (h : joinB es xs i k = false) : grpP es xs i (k + 1) = grpP es xs i k := by
  unfold grpP
  rw [List.range_succ, List.filter_append, List.map_append]
  simp [h]
theorem grpP_len (es : List (Int × Int)) (xs : List Int) (i k : Nat) : (grpP es xs i k).length ≤ k := by
  unfold grpP
  rw [List.length_map]
  exact Nat.le_trans (List.length_filter_le _ _) (by simp)
theorem grpP_start (g : IsG N es) (gs : isSetP es.length xs) (he : evenP N es xs) {i : Nat} (hi : i < xs.length) (hm : metX es xs i i = false) : grpP es xs i i = [] := by
  unfold grpP
  rw [List.map_eq_nil_iff, List.filter_eq_nil_iff]
  intro j hj
  rw [join_before g gs he hi (List.mem_range.1 hj) hm]
  simp
end

set_option maxRecDepth 100000 in
set_option maxHeartbeats 16000000 in
theorem sCyc7_any (N b off n c : Nat) (ps : Option Addr) (m f : Nat) (es : List (Int × Int)) (xs : List Int) (w : World) (hn : es.length = n) (hr : ReadsE w b off es) (g : IsG N es) (hx : xs.length = m) (hrx : SeesI w ps xs) (gs : isSetP n xs) (gev : evenP N es xs) :
    Calls Try.prog 120 #[.agg #[.int .i64 N, .slice (some ⟨b, off, none⟩) n c], .slice ps m f] w fun e' w' => ∃ q cap vals, e' = .returned (.slice q (cycX es xs m).length cap) ∧ RowsM w' w.heap.size (cycX es xs m) cap q vals ∧ Below w.heap.size w w' := by
  have hn30 : n ≤ 30 := by have := isG_len g; omega
  have hN20 : N ≤ 20 := by have := g.1.1.2.1; omega
  have hm30 : m ≤ 30 := by have := set_len gs; omega
  have gs' : isSetP es.length xs := by rw [hn]; exact gs
  have Hn := hid hn
  have Hr := hid hr
  have Hx := hid hx
  have Hrx := hid hrx
  have G := hid g
  have GS := hid gs
  have GS' := hid gs'
  have GE := hid gev
  have hbl : b < w.heap.size := reads_lt hr (by have := g.1.1.2.2.2; have := g.1.1.1; omega)
  obtain ⟨e0, hie, he0, he1, he2⟩ := info_parts infoEdM
  obtain ⟨j0, hj, hy0, hy1, hy2⟩ := info_parts infoInt
  obtain ⟨s0, hs, hs0, hs1, hs2⟩ := info_parts infoSlR
  obtain ⟨i0, hi, hz0, hz1, hz2⟩ := info_parts infoBl
  have Hie := hid hie
  have Hj := hid hj
  have Hs := hid hs
  have hmk0 : ∀ w', (Instr.makeSlice 81 (.int .i64 m) (.int .i64 m)).run Try.prog w' = .ok (.slice (some ⟨w'.heap.size, 0, none⟩) m m) (w'.alloc (.cells (madeCells (Value.bool false).cells (m * 1)) 4)) := fun w' => by
    have h := run_makeSlice (P := Try.prog) w' 81 4 i0 (.bool false) Try.underlying81 hi hz0 .i64 .i64 m m (by omega) (Int.le_refl _) (by rw [hz1]; omega) (by rw [hz2]; omega) (by omega)
    rw [hz1] at h
    simpa using h
  obtain ⟨ZC, hZC⟩ : ∃ ZC, ZC = madeCells (Value.bool false).cells (m * 1) := ⟨_, rfl⟩
  have hmk : ∀ w', (Instr.makeSlice 81 (.int .i64 m) (.int .i64 m)).run Try.prog w' = .ok (.slice (some ⟨w'.heap.size, 0, none⟩) m m) (w'.alloc (.cells ZC 4)) := by rw [hZC]; exact hmk0
  have HZC := hid hZC
  clear hn hr hx hrx g gs gs' gev hie hj hs hi hmk0 hZC
  go_enter Try.func120, Try.ntmps120
  have HX0 := hid (Box.new w N (some ⟨b, off, none⟩) n c 28)
  have HB0 := hid (on_alloc w (.cells #[.int .i64 N, .slice (some ⟨b, off, none⟩) n c] 28))
  go_wp2
  obtain ⟨w2, hw2⟩ : ∃ w2, w2 = w.alloc (.cells #[.int .i64 N, .slice (some ⟨b, off, none⟩) n c] 28) := ⟨_, rfl⟩
  have HS2 := hid (show w2.heap.size = w.heap.size + 1 by rw [hw2]; simp)
  rw [← hw2] at HX0 HB0 ⊢
  clear hw2
  obtain ⟨w3, hw3⟩ : ∃ w3, w3 = w2.alloc (.cells #[] 57) := ⟨_, rfl⟩
  rw [← hw3]
  have hs2' := HB0.out.size
  have HB3 := hid (show Below w2.heap.size w2 w3 by rw [hw3]; exact on_alloc _ _)
  have HO3 := hid (show w3.ownsRow w2.heap.size 57 2 (.slice (some ⟨w2.heap.size, 0, none⟩) 0 0) 0 (edgeVals (keptE es xs 0)) by rw [hw3]; exact World.ownsRow_made (base := w2.heap.size) (e := 57) (size := 2) w2 #[] 0 (Nat.le_refl _) (Nat.zero_le _) rfl)
  clear hw3
  go_loopw [5, 6] (fun u i wr => ∃ (k cap : Nat) (ge : Nat), k ≤ m ∧ u = .slice (some ⟨ge, 0, none⟩) k cap ∧ i = .int .i64 k ∧ Hid (wr.ownsRow w2.heap.size 57 2 (.slice (some ⟨ge, 0, none⟩) k cap) k (edgeVals (keptE es xs k))) ∧ Hid (Below w2.heap.size w2 wr)) (fun _ i _ => m - (intOf i).toNat)
  case atStart => exact ⟨0, 0, w2.heap.size, Nat.zero_le _, by rw [HS2.out], rfl, HO3, HB3⟩
  case round =>
    obtain ⟨k, cap, ge, hk, rfl, rfl, hO, hB⟩ := hrel
    clear HO3 HB3
    have HXr := hid (HX0.out.on hB.out)
    have hyr := HXr.out.2
    have hzr := HXr.out.lt
    have HBw := hid (bfrom HB0.out hB.out)
    have hszw := HBw.out.size
    have hszr := hB.out.size
    have hs2lt := HX0.out.lt
    by_cases hlt : k < m
    · obtain ⟨sb, so, rfl, hrd⟩ : ∃ sb so, ps = some ⟨sb, so, none⟩ ∧ ReadsI w sb so xs := by
        rcases Hrx.out with h | h
        · have := Hx.out; rw [h] at this; simp at this; omega
        · exact h
      have hkx : k < xs.length := by have := Hx.out; omega
      have hc1 := (hrd.on HBw.out) k hkx
      have hsb0 := hrd.lt (show 0 < xs.length by omega)
      have hsb : sb < wr.heap.size := by omega
      have hbr : b < wr.heap.size := by omega
      obtain ⟨hE1, hE2⟩ := eX_at GS'.out hkx
      obtain ⟨E, hE⟩ : ∃ E, eX xs k = E := ⟨_, rfl⟩
      rw [hE] at hE1 hE2
      rw [hE1] at hc1
      have hEn : E < n := by have := Hn.out; omega
      have hEn' : (E : Int) < (n : Int) := by omega
      have hrd2 := (Hr.out.on HBw.out) E hE2
      have hc2 := hrd2.1
      have hc3 := hrd2.2
      obtain ⟨X, hX⟩ : ∃ X, eA es E = X := ⟨_, rfl⟩
      obtain ⟨Y, hY⟩ : ∃ Y, eB es E = Y := ⟨_, rfl⟩
      rw [hX] at hc2
      rw [hY] at hc3
      have HST := hid (show keptE es xs (k + 1) = keptE es xs k ++ [(X, Y)] by rw [keptE_succ hkx, hE, hX, hY])
      have hrow : ∀ j, (Value.slice (some ⟨ge, 0, none⟩) k cap).ownBlock = some j → w2.heap.size ≤ j ∧ j < wr.heap.size := hO.out.lt
      clear hrd hE1 hE2 hE hrd2 hX hY
      obtain ⟨wo, rfl⟩ : ∃ wo : World, wo = wr := ⟨_, rfl⟩
      go_wp2
      go_region_held3 (fun w' => w'.cell? ⟨w.heap.size, 1, none⟩ = some (.slice (some ⟨b, off, none⟩) n c) ∧ w'.cell? ⟨sb, so + k, none⟩ = some (.int .i64 E) ∧ w'.cell? ⟨b, off + E * 2, none⟩ = some (.int .i64 X) ∧ w'.cell? ⟨b, off + E * 2 + 1, none⟩ = some (.int .i64 Y))
        (first
          | go_keep
          | (go_split_ands; refine ⟨?_, ?_, ?_, ?_⟩ <;> (rw [hgrow.cell_far _ (by simp; omega) (fun e => by have h := hrow _ e.symm; dsimp only at h; omega)]; assumption)))
        ((refine step_append_lies _ (by rfl) _ _ _ (by rfl) w2.heap.size 57 e0 _ 2 16 Try.underlying26 Hie.out he0 he1 he2 rfl (by omega) (.slice (some ⟨ge, 0, none⟩) k cap) k _ (by rfl) ((hO.out.alloc _).drew)
            ⟨wo.heap.size, 0, none⟩ 1 1 [.int .i64 X, .int .i64 Y] (by rfl) (by rfl) (World.news_of_block (cs := #[.int .i64 X, .int .i64 Y]) (t := 57) (fr := (0, 0)) (heap_alloc_new wo _)) (by simp [Value.oneCell'])
            (by omega) (by unfold maxLen; omega) (by omega) (by simp; omega) (wo.heap.size + 1) (by simp) ?_; intro gg cap' w8 hown8 hgrow hat hlt'))
      all_goals
        have Hown8 := hid hown8
        have HB8 := hid (((hB.out.alloc hszr (.cells #[.int .i64 X, .int .i64 Y] 57)).drew).grown hgrow (by show w2.heap.size ≤ (wo.alloc _).heap.size; simp; omega) (fun j hj => (hrow j hj).1))
        clear hown8 hgrow hat
        go_wp2
        go_roundw
        case rel => exact ⟨k + 1, cap', gg, by omega, rfl, by go_num, hid (by rw [HST.out, edgeVals_append]; exact Hown8.out), HB8⟩
        case measure => simp [intOf]; omega
    · have hkm := hid (show k = m by omega)
      have HKE := hid (show OwnE wr ge cap (keptE es xs m) by
        have h := OwnE.of_row hO.out (keptE_len es (by have := Hx.out; omega))
        rw [hkm.out] at h
        exact h.1)
      have HKL := hid (show (keptE es xs m).length = m from keptE_len es (by have := Hx.out; omega))
      have HEI := hid (show EndsIn N (keptE es xs m) by have h := kept_ends G.out GS'.out; rwa [Hx.out] at h)
      have hx0 := HXr.out.1
      obtain ⟨wo, rfl⟩ : ∃ wo : World, wo = wr := ⟨_, rfl⟩
      clear hyr
      go_wp2
      go_cut [7, 8, 9] (fun u v z wx => ∃ (gl cl gm go : Nat) (ls : List Int), u = .slice (some ⟨gl, 0, none⟩) N cl ∧ v = .slice (some ⟨gm, 0, none⟩) m m ∧ z = .slice (some ⟨go, 0, none⟩) 0 0 ∧ Hid (OwnI wx gl cl ls ∧ IsLead N (keptE es xs m) ls) ∧ Hid (OwnB wx gm m (List.replicate m false) ∧ wo.heap.size ≤ gm) ∧ Hid (RowsM wx wo.heap.size [] 0 (some ⟨go, 0, none⟩) []) ∧ Hid (Below wo.heap.size wo wx))
      case first =>
        go_region_held3 (fun w' => w'.cell? ⟨w.heap.size, 0, none⟩ = some (.int .i64 N)) (go_keep) (first
          | (go_at_call 143; refine (sLeaders_any N (some ⟨ge, 0, none⟩) k cap (keptE es xs m) _ (by rw [HKL.out, hkm.out]) (by omega) hN20 ((by first | exact HKE.out.sees | exact (HKE.out.on (by have := Below.refl wo.heap.size wo; go_grown)).sees)) HEI.out).mono ?_; rintro e' w5 ⟨gl, cl, ls, rfl, hgl, hol, hil, hb5⟩; have hc5 : w5.cell? ⟨w.heap.size, 0, none⟩ = some (.int .i64 N) := (HXr.out.on (bfrom (by have := Below.refl wo.heap.size wo; go_grown) hb5)).1))
        all_goals
          have Hol := hid hol
          have Hil := hid hil
          have Hgl := hid hgl
          have HB5 := hid (show Below wo.heap.size wo w5 from bfrom (by have := Below.refl wo.heap.size wo; go_grown) hb5)
          have hs5 := HB5.out.size
          go_wp2_with fail
          go_meet
          refine ⟨gl, cl, _, _, ls, rfl, rfl, rfl, hid ⟨Hol.out.on (by have := Below.refl w5.heap.size w5; go_grown), Hil.out⟩, hid ⟨?_, ?_⟩, hid ?_, hid (bfrom HB5.out (by have := Below.refl w5.heap.size w5; go_grown))⟩
          · first
              | (refine (falses_new w5 _ m ZC HZC.out ?_ hm30).on ?_; (first | rfl | (focus (simp; done))); (first | exact Below.refl _ _ | exact on_alloc _ _ | exact bdn.mpr (Below.refl _ _) | exact bdn.mpr (on_alloc _ _)))
              | (refine (falses_new wo _ m ZC HZC.out ?_ hm30).on ?_; (first | rfl | (focus (simp; done))); (refine bfrom (bfrom ?_ hb5) ?_); (first | exact Below.refl _ _ | exact on_alloc _ _ | exact bdn.mpr (Below.refl _ _) | exact bdn.mpr (on_alloc _ _)); (first | exact Below.refl _ _ | exact on_alloc _ _ | exact bdn.mpr (Below.refl _ _) | exact bdn.mpr (on_alloc _ _)))
              | (refine (falses_new (wo.alloc (.cells #[] 41)) _ m ZC HZC.out ?_ hm30).on ?_; (first | rfl | (focus (simp; done))); (refine bfrom (bfrom ?_ hb5) ?_); (first | exact Below.refl _ _ | exact on_alloc _ _ | exact bdn.mpr (Below.refl _ _) | exact bdn.mpr (on_alloc _ _)); (first | exact Below.refl _ _ | exact on_alloc _ _ | exact bdn.mpr (Below.refl _ _) | exact bdn.mpr (on_alloc _ _)))
              | (refine (falses_new (w5.alloc (.cells #[] 41)) _ m ZC HZC.out ?_ hm30).on ?_; (first | rfl | (focus (simp; done))); (first | exact Below.refl _ _ | exact on_alloc _ _ | exact bdn.mpr (Below.refl _ _) | exact bdn.mpr (on_alloc _ _)))
          · first | omega | (simp; omega)
          · first
              | (refine (rows_new w5 _ _ ?_ ?_).onB ?_; (first | rfl | (focus (simp; done))); (first | exact hs5 | exact Nat.le_refl _ | (focus (simp; done)) | (focus (simp; omega))); (first | exact Below.refl _ _ | exact on_alloc _ _ | exact bdn.mpr (Below.refl _ _) | exact bdn.mpr (on_alloc _ _)))
              | (refine (rows_new wo _ _ ?_ ?_).onB ?_; (first | rfl | (focus (simp; done))); (first | exact hs5 | exact Nat.le_refl _ | (focus (simp; done)) | (focus (simp; omega))); (refine bfrom (bfrom ?_ hb5) ?_); (first | exact Below.refl _ _ | exact on_alloc _ _ | exact bdn.mpr (Below.refl _ _) | exact bdn.mpr (on_alloc _ _)); (first | exact Below.refl _ _ | exact on_alloc _ _ | exact bdn.mpr (Below.refl _ _) | exact bdn.mpr (on_alloc _ _)))
              | (refine (rows_new (wo.alloc (.cells ZC 4)) _ _ ?_ ?_).onB ?_; (first | rfl | (focus (simp; done))); (first | exact hs5 | exact Nat.le_refl _ | (focus (simp; done)) | (focus (simp; omega))); (refine bfrom (bfrom ?_ hb5) ?_); (first | exact Below.refl _ _ | exact on_alloc _ _ | exact bdn.mpr (Below.refl _ _) | exact bdn.mpr (on_alloc _ _)); (first | exact Below.refl _ _ | exact on_alloc _ _ | exact bdn.mpr (Below.refl _ _) | exact bdn.mpr (on_alloc _ _)))
              | (refine (rows_new (w5.alloc (.cells ZC 4)) _ _ ?_ ?_).onB ?_; (first | rfl | (focus (simp; done))); (first | exact hs5 | exact Nat.le_refl _ | (focus (simp; done)) | (focus (simp; omega))); (first | exact Below.refl _ _ | exact on_alloc _ _ | exact bdn.mpr (Below.refl _ _) | exact bdn.mpr (on_alloc _ _)))
      case rest =>
        obtain ⟨gl, cl, gm, go, ls, rfl, rfl, rfl, hL, hM, hRo, hBc⟩ := hcut
        obtain ⟨wp, rfl⟩ : ∃ wp : World, wp = wc := ⟨_, rfl⟩
        have hxm := hid (show xs.length = m from Hx.out)
        go_wp2
        go_loopw [9, 10] (fun u i wr => ∃ (i' cap : Nat) (q : Option Addr) (vals : List Value), i' ≤ m ∧ u = .slice q (cycX es xs i').length cap ∧ i = .int .i64 i' ∧ Hid (OwnB wr gm m (mkX es xs i' 0) ∧ RowsM wr wo.heap.size (cycX es xs i') cap q vals) ∧ Hid (OwnI wr gl cl ls) ∧ Hid (Below wo.heap.size wo wr)) (fun _ i _ => m - (intOf i).toNat)
        case atStart => exact ⟨0, 0, some ⟨go, 0, none⟩, [], Nat.zero_le _, rfl, rfl, hid ⟨by rw [mkX_zero, Hx.out]; exact hM.out.1, hRo.out⟩, hid hL.out.1, hBc⟩
        case round =>
          obtain ⟨i, cap, q, vals, hi, rfl, rfl, hC, hLr, hBr⟩ := hrel
          have hcl := cycX_len es xs i
          obtain ⟨K, hK⟩ : ∃ K, (cycX es xs i).length = K := ⟨_, rfl⟩
          rw [hK] at hcl ⊢
          have HK := hid hK
          clear hK
          have hszr2 := hBr.out.size
          by_cases hlti : i < m
          · have hix : i < xs.length := by have := Hx.out; omega
            have hlti' : (i : Int) < (m : Int) := by omega
            have hcm := hC.out.1.cell (i := i) (by rw [mkX_len]; exact hix)
            rw [mkX_at hix] at hcm
            simp only [Nat.not_lt_zero, decide_false, Bool.false_and, Bool.or_false] at hcm
            have hgmz := hC.out.1.lt
            obtain ⟨a, ha⟩ : ∃ a, metX es xs i i = a := ⟨_, rfl⟩
            rw [ha] at hcm
            have HA := hid ha
            clear ha
            cases a
            · obtain ⟨wi, rfl⟩ : ∃ wi : World, wi = wr := ⟨_, rfl⟩
              go_wp2
              obtain ⟨w6, hw6⟩ : ∃ w6, w6 = wi.alloc (.cells #[] 2) := ⟨_, rfl⟩
              rw [← hw6]
              have HO6 := hid (show OwnI w6 wi.heap.size 0 (grpP es xs i i) by rw [hw6, grpP_start G.out GS'.out GE.out hix HA.out]; exact own_nil wi _ rfl)
              have HM6 := hid (show OwnB w6 gm m (mkX es xs i i) by rw [hw6, ← mkX_start G.out GS'.out GE.out hix HA.out]; exact hC.out.1.alloc _)
              have HK6 := hid (show Kept (fun b => b < wi.heap.size ∧ b ≠ gm) wi w6 by rw [hw6]; exact (Kept.refl _ wi).call (on_alloc _ _))
              clear hw6 hcm
              have hendi := (HEI.out i (by rw [HKL.out]; exact hlti)).1
              obtain ⟨XI, hXI⟩ : ∃ XI : Nat, eA (keptE es xs m) i = XI := ⟨_, (Int.toNat_of_nonneg hendi.1).symm⟩
              have hXIN : XI < N := by omega
              have hXIN' : (XI : Int) < (N : Int) := by omega
              have HXI := hid hXI
              obtain ⟨VI, hVI⟩ : ∃ VI, eI ls XI = VI := ⟨_, rfl⟩
              have HVI := hid hVI
              have hlsN : ls.length = N := hL.out.2.1.len
              have HLsN := hid hlsN
              clear hendi hXI hVI hlsN
              go_loopw [11, 12] (fun u v wr => ∃ (k' l cap' g' : Nat), i ≤ k' ∧ k' ≤ m ∧ l ≤ k' ∧ wi.heap.size ≤ g' ∧ u = .slice (some ⟨g', 0, none⟩) l cap' ∧ v = .int .i64 k' ∧ Hid ((grpP es xs i k').length = l ∧ OwnI wr g' cap' (grpP es xs i k')) ∧ Hid (OwnB wr gm m (mkX es xs i k')) ∧ Hid (Kept (fun b => b < wi.heap.size ∧ b ≠ gm) wi wr)) (fun _ v _ => m - (intOf v).toNat)
              case atStart => exact ⟨i, 0, 0, wi.heap.size, Nat.le_refl _, hi, by omega, Nat.le_refl _, rfl, rfl, hid ⟨by rw [grpP_start G.out GS'.out GE.out hix HA.out]; rfl, HO6.out⟩, HM6, HK6⟩
              case round =>
                obtain ⟨kk, l, cap', g', hik, hkm', hlk, hg', rfl, rfl, hO', hM', hK'⟩ := hrel
                clear HO6 HM6 HK6
                have hszx := hK'.out.size
                have HBx := hid (show Below wo.heap.size wo wr from hBr.out.trans (hK'.out.below (fun b hb => ⟨by omega, fun e => by have := hM.out.2; omega⟩) (by omega)))
                have hszy := HBx.out.size
                by_cases hltk : kk < m
                · have hkx : kk < xs.length := by have := Hx.out; omega
                  have hltk' : (kk : Int) < (m : Int) := by omega
                  have HKEx := hid (HKE.out.on HBx.out)
                  have hgez := HKEx.out.lt
                  have HLx := hid (show OwnI wr gl cl ls from hLr.out.keep (hK'.out.same gl ⟨hLr.out.lt, ne_IB hLr.out hC.out.1⟩ hLr.out.lt))
                  have hglz := HLx.out.lt
                  have hr1 := (HKEx.out.reads kk (by rw [HKL.out]; exact hltk)).1
                  have hr2 := (HKEx.out.reads i (by rw [HKL.out]; exact hlti)).1
                  have hendk := (HEI.out kk (by rw [HKL.out]; exact hltk)).1
                  obtain ⟨XK, hXK⟩ : ∃ XK : Nat, eA (keptE es xs m) kk = XK := ⟨_, (Int.toNat_of_nonneg hendk.1).symm⟩
                  have hXKN : XK < N := by omega
                  have hXKN' : (XK : Int) < (N : Int) := by omega
                  rw [hXK, Nat.zero_add] at hr1
                  rw [HXI.out, Nat.zero_add] at hr2
                  have hv1 := HLx.out.cellE (i := XK) (by rw [HLsN.out]; exact hXKN)
                  have hv2 := HLx.out.cellE (i := XI) (by rw [HLsN.out]; exact hXIN)
                  rw [HVI.out] at hv2
                  obtain ⟨VK, hVK⟩ : ∃ VK, eI ls XK = VK := ⟨_, rfl⟩
                  rw [hVK] at hv1
                  have hjoin : (VK == VI) = joinB es xs i kk := by
                    have hl := hL.out.2
                    rw [← Hx.out] at hl
                    have h := lead_join G.out GS'.out GE.out hl hix hkx
                    have e1 := (keptE_at (es := es) (xs := xs) (i := kk) (k := m) hltk (Nat.le_of_eq Hx.out.symm)).1
                    have e2 := (keptE_at (es := es) (xs := xs) (i := i) (k := m) hlti (Nat.le_of_eq Hx.out.symm)).1
                    rw [hXK] at e1
                    rw [HXI.out] at e2
                    rw [← e1, ← e2, Int.toNat_natCast, Int.toNat_natCast, hVK, HVI.out] at h
                    exact h
                  have hcM := hM'.out.cell (i := kk) (by rw [mkX_len]; exact hkx)
                  have hfM := hM'.out.free kk
                  have hgMz := hM'.out.lt
                  have hg'z := hO'.out.2.lt
                  obtain ⟨z, hz⟩ : ∃ z, joinB es xs i kk = z := ⟨_, rfl⟩
                  rw [hz] at hjoin
                  have HZ := hid hz
                  clear hz hVK hXK hendk
                  obtain ⟨wx, rfl⟩ : ∃ wx : World, wx = wr := ⟨_, rfl⟩
                  cases z
                  · go_wp2
                    go_quiet (fail)
                    go_wp2
                    go_roundw
                    case rel => exact ⟨kk + 1, l, cap', g', by omega, by omega, by omega, hg', rfl, by go_num, hid (by rw [grpP_no HZ.out]; exact ⟨hO'.out.1, hO'.out.2.keep rfl⟩), hid (by rw [← mkX_no hkx HZ.out]; exact hM'.out.keep rfl), hid (hK'.out.call ((bdn.mpr (Below.refl _ _))))⟩
                    case measure => simp [intOf]; omega
                  · obtain ⟨sb, so, rfl, hrd⟩ : ∃ sb so, ps = some ⟨sb, so, none⟩ ∧ ReadsI w sb so xs := by
                      rcases Hrx.out with h | h
                      · have := Hx.out; rw [h] at this; simp at this; omega
                      · exact h
                    have hsb0 := hrd.lt (show 0 < xs.length by omega)
                    have hce := (hrd.on (bfrom HB0.out (hB.out.trans (HBx.out.mono (by omega))))) kk hkx
                    obtain ⟨EK, hEK⟩ : ∃ EK, eI xs kk = EK := ⟨_, rfl⟩
                    rw [hEK] at hce
                    have HEK := hid hEK
                    have hsbx : sb < wx.heap.size := by omega
                    have hsbm : sb ≠ gm := by have := hM.out.2; omega
                    have HRow := hid (fun (y : Nat) => show OwnI (((wx.drewN y).setCell ⟨gm, kk, none⟩ (.bool true)).alloc (.cells #[.int .i64 EK] 2)) g' cap' (grpP es xs i kk) from ((hO'.out.2.keep (w' := wx.drewN y) rfl).far (a := ⟨gm, kk, none⟩) (ne_IB hO'.out.2 hM'.out) (.bool true)).alloc (.cells #[.int .i64 EK] 2))
                    have HSz := hid (fun (y : Nat) => show ((wx.drewN y).setCell ⟨gm, kk, none⟩ (.bool true)).heap.size = wx.heap.size by simp [World.setCell])
                    have HNew := hid (fun (y : Nat) => show (((wx.drewN y).setCell ⟨gm, kk, none⟩ (.bool true)).alloc (.cells #[.int .i64 EK] 2)).heap[wx.heap.size]? = some (.cells #[.int .i64 EK] 2 (0, 0)) by rw [← HSz.out y]; exact heap_alloc_new _ _)
                    have HOl := hid hO'.out.1
                    clear hrd hEK
                    go_wp2
                    go_quiet (fail)
                    go_wp2_with (at_builtin; go_must (refine wpList_append_lies _ rfl (.tmp 77) (.tmp 82) 41 rfl wi.heap.size 2 j0 (.int .i64 0) 1 8 Try.underlying41 Hj.out hy0 hy1 hy2 rfl (by decide) (.slice (some ⟨g', 0, none⟩) l cap') l _ rfl (OwnI.row (HRow.out _) HOl.out hg') ⟨wx.heap.size, 0, none⟩ 1 1 [.int .i64 EK] rfl rfl (World.news_of_block (cs := #[.int .i64 EK]) (t := 2) (fr := (0, 0)) (HNew.out _)) (by simp [Value.oneCell']) (by decide) (by unfold maxLen; omega) (by omega) (by rw [World.size_alloc, HSz.out]; omega) (wx.heap.size + 1) (by rw [World.size_alloc, HSz.out]) ?_); intro g7 cap7 w7 hown7 hgrow7 hlie7 hg7; have Hown7 := hid hown7; have Hgrow7 := hid hgrow7; have Hlie7 := hid hlie7; clear hown7 hgrow7 hlie7)
                    have HK7 := hid (show Kept (fun b => b < wi.heap.size ∧ b ≠ gm) wi w7 from (((hK'.out.call (bdn.mpr (Below.refl _ _))).set (a := ⟨gm, kk, none⟩) (fun h => h.2 rfl) (.bool true)).call (on_alloc _ (.cells #[.int .i64 EK] 2))).row Hgrow7.out (fun r e h => by have e1 : g' = r := Option.some.inj e; have h1 := h.1; omega))
                    have hcy : intVals (grpP es xs i kk) ++ [.int .i64 EK] = intVals (grpP es xs i (kk + 1)) := by rw [grpP_yes HZ.out, intVals_append, HEK.out]; rfl
                    have HL7 := hid (show (grpP es xs i (kk + 1)).length = l + 1 by rw [grpP_yes HZ.out, List.length_append, HOl.out]; rfl)
                    have HO7 := hid (show OwnI w7 g7 cap7 (grpP es xs i (kk + 1)) from (OwnI.of_row (n := l + 1) (by rw [← hcy]; exact Hown7.out) HL7.out).1)
                    have HM7 := hid (show OwnB w7 gm m (mkX es xs i (kk + 1)) by
                      rw [← mkX_yes hkx HZ.out]
                      exact ((OwnB.set (OwnB.keep (w' := wx.drewN _) hM'.out rfl) (by rw [mkX_len]; exact hkx) true).alloc (.cells #[.int .i64 EK] 2)).keep (Hgrow7.out.block gm (by rw [World.size_alloc, HSz.out]; omega) (fun e => by have e1 : gm = g' := Option.some.inj e; exact ne_IB hO'.out.2 hM'.out e1.symm)))
                    have hg7' : wi.heap.size ≤ g7 := by
                      rcases Hlie7.out with h | h
                      · have e1 : g' = g7 := Option.some.inj h
                        omega
                      · omega
                    clear hcy
                    go_roundw
                    case rel => exact ⟨kk + 1, l + 1, cap7, g7, by omega, by omega, by omega, hg7', rfl, by go_num, hid ⟨HL7.out, HO7.out⟩, HM7, HK7⟩
                    case measure => simp [intOf]; omega
                · have hkm2 := hid (show kk = m by omega)
                  have HGr := hid (show grpP es xs i kk = grpX es xs i by rw [hkm2.out, ← Hx.out]; rfl)
                  have HMk := hid (show mkX es xs i kk = mkX es xs (i + 1) 0 by rw [hkm2.out, ← Hx.out]; exact mkX_end)
                  obtain ⟨wx, rfl⟩ : ∃ wx : World, wx = wr := ⟨_, rfl⟩
                  have HRw := hid (hC.out.2.others hC.out.1 (w' := wx) (fun b hb hl => hK'.out.same b ⟨hl, hb⟩ hl))
                  have HLx := hid (show OwnI wx gl cl ls from hLr.out.keep (hK'.out.same gl ⟨hLr.out.lt, ne_IB hLr.out hC.out.1⟩ hLr.out.lt))
                  have HPa := hid (HRw.out.kept (w' := wx.alloc (.cells #[.slice (some ⟨g', 0, none⟩) l cap'] 41)) (fun b _ h2 => heap_alloc_old _ _ h2))
                  have hrow8 : ∀ j', (Value.slice q K cap).ownBlock = some j' → wo.heap.size ≤ j' ∧ j' < wx.heap.size := by have h := HRw.out.1.lt; rw [HK.out] at h; exact h
                  have hnG := row_neB (by have h := HPa.out.1; exact h) (hM'.out.alloc (.cells #[.slice (some ⟨g', 0, none⟩) l cap'] 41))
                  have hnL := row_nei (by have h := HPa.out.1; exact h) (HLx.out.alloc (.cells #[.slice (some ⟨g', 0, none⟩) l cap'] 41))
                  rw [HK.out] at hnG hnL
                  have HNG := hid hnG
                  have HNL := hid hnL
                  have hK31 : K + 1 ≤ 31 := by omega
                  clear hnG hnL
                  go_wp2_with (at_builtin; go_must (refine wpList_append_lies _ rfl (.tmp 84) (.tmp 86) 35 rfl wo.heap.size 41 s0 (.slice none 0 0) 1 24 Try.underlying35 Hs.out hs0 hs1 hs2 rfl (by decide) (.slice q K cap) K vals rfl (by have h := HPa.out.1; rw [HK.out] at h; exact h) ⟨wx.heap.size, 0, none⟩ 1 1 [.slice (some ⟨g', 0, none⟩) l cap'] rfl rfl (World.news_of_block (cs := #[.slice (some ⟨g', 0, none⟩) l cap']) (t := 41) (fr := (0, 0)) (heap_alloc_new _ _)) (by simp [Value.oneCell']) (by decide) (by unfold maxLen; omega) (by omega) (by simp; omega) (wx.heap.size + 1) (by simp) ?_); intro g8 cap8 w8 hown8 hgrow8 hlie8 hg8; have Hown8 := hid hown8; have Hgrow8 := hid hgrow8; clear hown8 hgrow8 hlie8)
                  go_roundw
                  case rel =>
                    refine ⟨i + 1, cap8, some ⟨g8, 0, none⟩, vals ++ [.slice (some ⟨g', 0, none⟩) l cap'], by omega, by rw [cycX_yes HA.out, List.length_append, HK.out]; rfl, by go_num, hid ⟨?_, ?_⟩, hid ?_, hid ?_⟩
                    · rw [← HMk.out]
                      exact (hM'.out.alloc _).keep (Hgrow8.out.block gm (by have := hM'.out.lt; rw [World.size_alloc]; omega) HNG.out)
                    · rw [cycX_yes HA.out]
                      exact RowsM.push (m := l) HPa.out (by rw [← HGr.out]; exact hO'.out.2.alloc _) (by omega) (by rw [← HGr.out]; exact hO'.out.1) (by rw [HK.out]; exact Hown8.out) (by rw [HK.out]; exact Hgrow8.out)
                    · exact (HLx.out.alloc _).keep (Hgrow8.out.block gl (by have := HLx.out.lt; rw [World.size_alloc]; omega) HNL.out)
                    · exact (HBx.out.alloc HBx.out.size _).grown Hgrow8.out (by rw [World.size_alloc]; have := HBx.out.size; omega) (fun j' e => (hrow8 j' e).1)
                  case measure => simp [intOf]; omega
            · go_wp2
              go_roundw
              case rel => exact ⟨i + 1, cap, q, vals, by omega, by rw [cycX_no HA.out, HK.out], by go_num, hid ⟨by rw [← mkX_old G.out GS'.out GE.out hix HA.out]; exact hC.out.1, by rw [cycX_no HA.out]; exact hC.out.2⟩, hLr, hBr⟩
              case measure => simp [intOf]; omega
          · obtain rfl : i = m := by omega
            go_wp2
            go_ret
            refine ⟨q, cap, vals, by rw [HK.out]; rfl, ?_, ?_⟩
            · have h := hC.out.2
              obtain ⟨h1, h2, h3⟩ := h
              refine ⟨⟨h1.1, ?_⟩, h2, fun j hj => ?_⟩
              · rcases h1.2 with hn' | ⟨g, c', cur, hv, hb', r⟩
                · exact .inl hn'
                · exact .inr ⟨g, c', cur, hv, by omega, r⟩
              · obtain ⟨g, c', e1, e2, e3⟩ := h3 j hj
                exact ⟨g, c', e1, by omega, e3⟩
            · exact bfrom HB0.out (hB.out.trans (hBr.out.mono (by omega)))

end Go.Proofs.Ytfdlhdgmbjdhbaa
