/- ChainNumbers in the model. -/
import Derived.Test.YtjkemganbfldpaaChqA
import Derived.Test.YtjkemganbfldpaaChnS
import Derived.Test.YtjkemganbfldpaaCodeA
namespace Go.Proofs.Ytjkemganbfldpaa
open Go.RowKit

def fChainNumbers (s : Int) (es : List (Int × Int)) (cs : List Int) : List Int × Int := if IsG s es then (if isColP es cs then (numsC es cs 3, 0) else ([], 2)) else ([], 1)
theorem fChainNumbers_len (s : Int) (es : List (Int × Int)) (cs : List Int) (_ : es.length ≤ 1048576) (_ : cs.length ≤ 1048576) : (fChainNumbers s es cs).1.length ≤ 1048576 := by
  unfold fChainNumbers
  split
  · split
    · rw [numsC_len]; omega
    · simp
  · simp
theorem cols_seesQ {s : Int} {es : List (Int × Int)} {cs : List Int} {q : Option Addr} {w : World} (g : IsG s es) (gc : isColP es cs) (hr : SeesI w q cs) : ∃ b o, q = some ⟨b, o, none⟩ ∧ ReadsI w b o cs := by
  rcases hr with rfl | h2
  · exact absurd g.1.1.2.2.2 (by have := g.1.1.1; have := gc.1; simp at this; omega)
  · exact h2
/-- How many pairs of colours lie ahead of the pair a, b. -/
def lab (a b : Nat) : Nat := if a = 0 then b - 1 else if a = 1 then b else 3
theorem lab_pr {a b : Nat} (h1 : a < b) (h2 : b < 3) : prA (lab a b) = a ∧ prB (lab a b) = b := by
  rcases (by omega : (a = 0 ∧ b = 1) ∨ (a = 0 ∧ b = 2) ∨ (a = 1 ∧ b = 2)) with ⟨rfl, rfl⟩ | ⟨rfl, rfl⟩ | ⟨rfl, rfl⟩ <;> decide
theorem lab_le {a b : Nat} (h : b ≤ 3) : lab a b ≤ 3 := by
  unfold lab
  split
  · omega
  · split <;> omega
theorem lab_next {a b : Nat} (h1 : a < b) (h2 : b < 3) : lab a (b + 1) = lab a b + 1 := by
  unfold lab
  split
  · omega
  · split <;> omega
theorem lab_turn {a : Nat} (h : a < 3) : lab a 3 = lab (a + 1) (a + 1 + 1) := by
  rcases (by omega : a = 0 ∨ a = 1 ∨ a = 2) with rfl | rfl | rfl <;> decide

set_option maxRecDepth 100000 in
set_option maxHeartbeats 4000000 in
theorem sNums_code (s q0 : Int) (p pc : Option Addr) (n c m d : Nat) (es : List (Int × Int)) (cs : List Int) (w : World) (hn : es.length = n) (hm : n ≤ 9223372036854775807) (hr : SeesE w p es) (hl : cs.length = m) (hm2 : m ≤ 1048576) (hrc : SeesI w pc cs) (hq : colsCode s es 1 (fun _ => cs) = q0) (hne : (q0 != 0) = true) :
    Calls Try.prog 5 #[.agg #[.int .i64 s, .slice p n c], .slice pc m d] w fun e' w' => e' = .returned (.tuple #[.slice none 0 0, .int .i64 q0]) ∧ Below w.heap.size w w' := by
  have Hn := hid hn
  have Hr := hid hr
  have Hl := hid hl
  have Hm2 := hid hm2
  have Hrc := hid hrc
  have HQ := hid hq
  clear hn hr hl hm2 hrc hq
  go_enter Try.func5, Try.ntmps5
  go_wp2_with fail
  refine (sCode_any _ _ _ _ _ _ _ _ es _ _ _ _ _ Hn.out hm ((Hr.out.on (on_alloc _ _)).on (on_alloc _ _)) (by omega) (rows_one (by simp) Hl.out Hm2.out (Hrc.out.on (on_alloc _ _)))).mono ?_
  rw [HQ.out]
  rintro e w2 ⟨rfl, hb2⟩
  have hB2 := bfrom (w := w) (by go_grown) hb2
  go_wp2
  go_ret2
  exact ⟨rfl, hB2⟩

set_option maxRecDepth 100000 in
set_option maxHeartbeats 16000000 in
theorem sNums_yes (s : Int) (b off n c cb co m f0 : Nat) (es : List (Int × Int)) (cs : List Int) (w : World) (hn : es.length = n) (hr : ReadsE w b off es) (hl : cs.length = m) (hrc : ReadsI w cb co cs) (g : IsG s es) (gc : isColP es cs) :
    Calls Try.prog 5 #[.agg #[.int .i64 s, .slice (some ⟨b, off, none⟩) n c], .slice (some ⟨cb, co, none⟩) m f0] w fun e' w' => ∃ q cap, e' = .returned (.tuple #[.slice q 3 cap, .int .i64 0]) ∧ FreshI w.heap.size w' q 3 cap (numsC es cs 3) ∧ Below w.heap.size w w' := by
  obtain rfl : m = n := by rw [← hl, ← hn]; exact gc.1
  have hn30 : m ≤ 30 := by have := isG_len g; omega
  have hn1 : 0 < m := by have h1 := g.1.1.1; have h2 := g.1.1.2.2.2; omega
  have hq : colsCode s es 1 (fun _ => cs) = 0 := by unfold colsCode; rw [if_pos g, if_pos (fun _ _ => gc)]
  have hcb : cb < w.heap.size := hrc.lt (by omega)
  have hbb : b < w.heap.size := reads_lt hr (by omega)
  have Hn := hid hn
  have Hr := hid hr
  have Hl := hid hl
  have Hrc := hid hrc
  have G := hid g
  have Gc := hid gc
  have HQ := hid hq
  obtain ⟨i0, hi, hz0, hz1, hz2⟩ := info_parts infoBh
  obtain ⟨j0, hj, hy0, hy1, hy2⟩ := info_parts infoInt
  have Hi := hid hi
  have Hj := hid hj
  clear hn hr hl hrc g gc hq hi hj
  go_enter Try.func5, Try.ntmps5
  go_wp2_with fail
  refine (sCode_any _ _ _ _ _ _ _ _ es _ _ _ _ _ Hn.out (by omega) (((SeesE.on (.inr ⟨b, off, rfl, Hr.out⟩) (on_alloc _ _))).on (on_alloc _ _)) (by omega) (rows_one (by simp) Hl.out (by omega) (SeesI.on (.inr ⟨cb, co, rfl, Hrc.out⟩) (on_alloc _ _)))).mono ?_
  rw [HQ.out]
  rintro e w2 ⟨rfl, hb2⟩
  have hB2 := bfrom (w := w) (bfrom (on_alloc _ _) (on_alloc _ _)) hb2
  have HX2 := hid (show Box w2 w.heap.size s (some ⟨b, off, none⟩) m c from ((Box.new w s (some ⟨b, off, none⟩) m c 31).on (on_alloc _ _)).on hb2)
  have hz2' := HX2.out.lt
  have HB2 := hid hB2
  have hs2 := hB2.size
  clear hb2 hB2
  obtain ⟨w5, hw5⟩ : ∃ w5, w5 = w2.alloc (.cells #[] 2) := ⟨_, rfl⟩
  go_wp2
  rw [← hw5]
  have HB5 := hid (show Below w2.heap.size w2 w5 by rw [hw5]; exact on_alloc _ _)
  have HO5 := hid (show OwnI w5 w2.heap.size 0 (numsC es cs 0) by
    have h : w5.ownsRow w2.heap.size 2 1 (.slice (some ⟨w2.heap.size, 0, none⟩) 0 0) 0 (intVals (numsC es cs 0)) := by rw [hw5]; exact World.ownsRow_made (base := w2.heap.size) (e := 2) (size := 1) w2 #[] 0 (Nat.le_refl _) (Nat.zero_le _) rfl
    exact (OwnI.of_row h (numsC_len _ _ _)).1)
  clear hw5
  go_loopw [7, 8] (fun u v wr => ∃ (a l cap gq : Nat), a ≤ 3 ∧ Hid (l = lab a (a + 1)) ∧ u = .slice (some ⟨gq, 0, none⟩) l cap ∧ v = .int .i64 a ∧ Hid (OwnI wr gq cap (numsC es cs l) ∧ w2.heap.size ≤ gq) ∧ Hid (Below w2.heap.size w2 wr)) (fun _ v _ => 3 - (intOf v).toNat)
  case atStart => exact ⟨0, 0, 0, _, Nat.zero_le _, hid (by decide), rfl, rfl, hid ⟨HO5.out, Nat.le_refl _⟩, HB5⟩
  case round =>
    obtain ⟨a, l, cap, gq, ha, hla, rfl, rfl, hO, hB⟩ := hrel
    clear HO5 HB5
    by_cases hlt : a < 3
    · have hlt' : (a : Int) < 3 := by omega
      have ew : IntKind.i64.wrap ((a : Int) + 1) = ((a + 1 : Nat) : Int) := by rw [IntWalk.i64_in _ (by omega)]; omega
      go_wp2
      go_loopw [7, 9] (fun u v wr => ∃ (b' l2 cap2 g2 : Nat), a < b' ∧ b' ≤ 3 ∧ Hid (l2 = lab a b') ∧ u = .slice (some ⟨g2, 0, none⟩) l2 cap2 ∧ v = .int .i64 b' ∧ Hid (OwnI wr g2 cap2 (numsC es cs l2) ∧ w2.heap.size ≤ g2) ∧ Hid (Below w2.heap.size w2 wr)) (fun _ v _ => 3 - (intOf v).toNat)
      case atStart => exact ⟨a + 1, l, cap, gq, by omega, by omega, hla, rfl, by go_num, hO, hB⟩
      case round =>
        obtain ⟨b', l2, cap2, g2, hab, hb3, hl2, rfl, rfl, hO2, hB2⟩ := hrel
        by_cases hltb : b' < 3
        · have hltb' : (b' : Int) < 3 := by omega
          have hl3 : l2 ≤ 3 := by rw [hl2.out]; exact lab_le hb3
          have hwr2 := hB2.out.size
          obtain ⟨wo, rfl⟩ : ∃ wo : World, wo = wr := ⟨_, rfl⟩
          go_wp2_with (at_make; refine wpList_make_full _ rfl _ _ 41 rfl wo.heap.size 4 i0 (.bool false) 1 Try.underlying41 Hi.out hz0 hz1 _ _ _ _ m rfl rfl rfl rfl (by rw [hz2]; omega) (by unfold maxLen; omega) (Nat.le_refl _) ?_; intro w3 hown hgrow; have Ho := hid (OwnB.made hown); have Hb3 := hid ((Below.refl wo.heap.size wo).grown hgrow (Nat.le_refl _) (fun k e => by cases e)); clear hown hgrow)
          have HO3 := hid (hO2.out.1.on Hb3.out)
          have hg2o := hO2.out.1.lt
          have HB3 := hid (show Below w2.heap.size w2 w3 from hB2.out.trans (Hb3.out.mono hwr2))
          go_loopw [11, 12] (fun u v wr => ∃ (e' : Nat), e' ≤ m ∧ u = .int .i64 ((chqE es cs a b' e').length : Int) ∧ v = .int .i64 e' ∧ Hid (OwnB wr wo.heap.size m (chqM es cs a b' e')) ∧ Hid (OwnI wr g2 cap2 (numsC es cs l2)) ∧ Hid (Below w2.heap.size w2 wr)) (fun _ v _ => m - (intOf v).toNat)
          case atStart => exact ⟨0, Nat.zero_le _, rfl, rfl, hid (by rw [chqM_zero, Hn.out]; exact Ho.out), HO3, HB3⟩
          case round =>
            obtain ⟨e, he, rfl, rfl, hM, hO4, hB4⟩ := hrel
            clear Ho Hb3 HO3 HB3
            have hgm := hM.out.lt
            by_cases hlte : e < m
            · have hlte' : (e : Int) < (m : Int) := by omega
              have hce := (Hrc.out.on (bfrom HB2.out hB4.out)) e (by have := Hl.out; omega)
              have hcbr : cb < wr.heap.size := by have := hB4.out.size; omega
              have hcm := hM.out.cell (i := e) (by rw [chqM_len]; have := Hn.out; omega)
              obtain ⟨x, hx⟩ : ∃ x, eI cs e = x := ⟨_, rfl⟩
              obtain ⟨y, hy⟩ : ∃ y, eL (chqM es cs a b' e) e = y := ⟨_, rfl⟩
              rw [hx] at hce
              rw [hy] at hcm
              have HXr := hid (HX2.out.on hB4.out)
              have hxr := HXr.out.1
              have hyr := HXr.out.2
              have hzr := HXr.out.lt
              obtain ⟨wi, rfl⟩ : ∃ wi : World, wi = wr := ⟨_, rfl⟩
              by_cases hxa : x = a
              · subst hxa
                have HXE := hid hx
                have HYE := hid hy
                clear hx hy
                cases y
                · have hcl : (chqE es cs a b' e).length ≤ e := chqE_len _ _ _
                  have ewc : IntKind.i64.wrap (((chqE es cs a b' e).length : Int) + 1) = ((chqE es cs a b' (e + 1)).length : Int) := by
                    rw [chqE_yes HXE.out HYE.out, List.length_append, List.length_singleton, IntWalk.i64_in _ (by omega)]
                    omega
                  go_wp2_with fail
                  refine (sChain_any s b off m c cb co m f0 e b' es cs _ Hn.out (Hr.out.on (bfrom HB2.out hB4.out)) Hl.out (Hrc.out.on (bfrom HB2.out hB4.out)) rfl (chG_of G.out Gc.out (by have := Hn.out; omega) HXE.out (by omega) (by omega))).mono ?_
                  rw [HXE.out]
                  rintro e'' w6 ⟨gC, rfl, hgC, ho6, hb6⟩
                  have HC6 := hid ho6
                  have HM6 := hid (hM.out.on hb6)
                  have HO6 := hid (hO4.out.on hb6)
                  have HB6 := hid (hB4.out.trans (hb6.mono hB4.out.size))
                  have hg2m : g2 ≠ wo.heap.size := by omega
                  have hgCm : gC ≠ wo.heap.size := by omega
                  clear ho6 hb6 hce hcm hxr hyr hzr HXr
                  go_wp2
                  go_loopw [14] (fun u wr => ∃ (f' : Nat), f' ≤ m ∧ u = .int .i64 f' ∧ Hid (OwnB wr wo.heap.size m (orM (chqM es cs a b' e) (chM es cs (a + b') e) f')) ∧ Hid (OwnB wr gC m (chM es cs (a + b') e)) ∧ Hid (OwnI wr g2 cap2 (numsC es cs l2)) ∧ Hid (Below w2.heap.size w2 wr)) (fun u _ => m - (intOf u).toNat)
                  case atStart => exact ⟨0, Nat.zero_le _, rfl, hid (by rw [orM_zero]; exact HM6.out), HC6, HO6, HB6⟩
                  case round =>
                    obtain ⟨f, hf, rfl, hM7, hC7, hO7, hB7⟩ := hrel
                    clear HM6 HC6 HO6 HB6
                    by_cases hltf : f < m
                    · have hltf' : (f : Int) < (m : Int) := by omega
                      have hfq : f < (chqM es cs a b' e).length := by rw [chqM_len]; have := Hn.out; omega
                      have hcm := hM7.out.cell (i := f) (by rw [orM_len]; exact hfq)
                      have hfm := hM7.out.free f
                      have hcc := hC7.out.cell (i := f) (by rw [chM_len]; have := Hn.out; omega)
                      have hgm7 := hM7.out.lt
                      have hgc7 := hC7.out.lt
                      rw [orM_at hfq, decide_eq_false (Nat.lt_irrefl f), Bool.false_and, Bool.or_false] at hcm
                      have HST := hid (show ∀ z, z = (eL (chqM es cs a b' e) f || eL (chM es cs (a + b') e) f) → OwnB (wr.setCell ⟨wo.heap.size, f, none⟩ (.bool z)) wo.heap.size m (orM (chqM es cs a b' e) (chM es cs (a + b') e) (f + 1)) from fun z hz => by
                        subst hz
                        rw [← orM_step hfq]
                        exact hM7.out.set (by rw [orM_len]; exact hfq) _)
                      obtain ⟨y, hy⟩ : ∃ y, eL (chqM es cs a b' e) f = y := ⟨_, rfl⟩
                      obtain ⟨z, hz⟩ : ∃ z, eL (chM es cs (a + b') e) f = z := ⟨_, rfl⟩
                      rw [hy] at hcm
                      rw [hz] at hcc
                      rw [hy, hz] at HST
                      clear hy hz
                      obtain ⟨wj, rfl⟩ : ∃ wj : World, wj = wr := ⟨_, rfl⟩
                      have HGO : ∀ v, Hid (OwnB (wj.setCell ⟨wo.heap.size, f, none⟩ v) gC m (chM es cs (a + b') e) ∧ OwnI (wj.setCell ⟨wo.heap.size, f, none⟩ v) g2 cap2 (numsC es cs l2) ∧ Below w2.heap.size w2 (wj.setCell ⟨wo.heap.size, f, none⟩ v)) := fun v => hid ⟨hC7.out.far' hgCm v, hO7.out.far hg2m v, hB7.out.setCell hwr2 v⟩
                      cases y
                      · go_wp2
                        go_roundw
                        case rel => exact ⟨f + 1, by omega, by go_num, hid (HST.out _ (by simp)), hid (HGO _).out.1, hid (HGO _).out.2.1, hid (HGO _).out.2.2⟩
                        case measure => simp [intOf]; omega
                      · go_wp2
                        go_roundw
                        case rel => exact ⟨f + 1, by omega, by go_num, hid (HST.out _ (by simp)), hid (HGO _).out.1, hid (HGO _).out.2.1, hid (HGO _).out.2.2⟩
                        case measure => simp [intOf]; omega
                    · obtain rfl : f = m := by omega
                      go_wp2
                      go_roundw
                      case rel => exact ⟨e + 1, by omega, rfl, by go_num, hid (by rw [chqM_yes HXE.out HYE.out, Hn.out]; exact hM7.out), hO7, hB7⟩
                      case measure => simp [intOf]; omega
                · have hno : ¬ (eI cs e = (a : Int) ∧ eL (chqM es cs a b' e) e = false) := fun h => by rw [HYE.out] at h; exact absurd h.2 (by simp)
                  have HNE := hid (chqE_no hno)
                  have HNM := hid (chqM_no hno)
                  clear hno
                  go_wp2
                  go_roundw
                  case rel => exact ⟨e + 1, by omega, by rw [HNE.out], by go_num, hid (by rw [HNM.out]; exact hM.out), hO4, hB4⟩
                  case measure => simp [intOf]; omega
              · have t1 : (x != (a : Int)) = true := by simpa using hxa
                have hno : ¬ (eI cs e = (a : Int) ∧ eL (chqM es cs a b' e) e = false) := fun h => hxa (by rw [← hx]; exact h.1)
                have HNE := hid (chqE_no hno)
                have HNM := hid (chqM_no hno)
                clear hno hxa hx hy
                go_wp2
                go_roundw
                case rel => exact ⟨e + 1, by omega, by rw [HNE.out], by go_num, hid (by rw [HNM.out]; exact hM.out), hO4, hB4⟩
                case measure => simp [intOf]; omega
            · obtain rfl : e = m := by omega
              have HRow := hid (OwnI.row (base := w2.heap.size) (hO4.out.alloc (.cells #[.int .i64 ((chqE es cs a b' e).length : Int)] 2)) (numsC_len es cs l2) hO2.out.2)
              have hsz := hB4.out.size
              have hg4 := hO4.out.lt
              have HPR := hid (lab_pr hab hltb)
              have HNS := hid (show intVals (numsC es cs (l2 + 1)) = intVals (numsC es cs l2) ++ [.int .i64 ((chqE es cs a b' e).length : Int)] by
                rw [numsC_succ, intVals_append, hl2.out, HPR.out.1, HPR.out.2]
                unfold chqN
                rw [Hn.out]
                rfl)
              obtain ⟨K, hK⟩ : ∃ K : Int, ((chqE es cs a b' e).length : Int) = K := ⟨_, rfl⟩
              rw [hK] at HRow HNS ⊢
              clear hK
              obtain ⟨wi, rfl⟩ : ∃ wi : World, wi = wr := ⟨_, rfl⟩
              go_wp2_with (at_builtin; go_must (refine wpList_append_lies _ rfl (.tmp 80) (.tmp 82) 25 rfl w2.heap.size 2 j0 (.int .i64 0) 1 8 Try.underlying25 Hj.out hy0 hy1 hy2 rfl (by decide) (.slice (some ⟨g2, 0, none⟩) l2 cap2) l2 _ rfl HRow.out ⟨wi.heap.size, 0, none⟩ 1 1 [.int .i64 K] rfl rfl (World.news_of_block (cs := #[.int .i64 K]) (t := 2) (fr := (0, 0)) (heap_alloc_new _ _)) (by simp [Value.oneCell']) (by decide) (by unfold maxLen; omega) (by omega) (by rw [World.size_alloc]; omega) (wi.heap.size + 1) (by rw [World.size_alloc]) ?_); intro g7 cap7 w7 hown7 hgrow7 hlie7 hg7; have Hown := hid hown7; have Hgrow := hid hgrow7; clear hown7 hgrow7 hlie7)
              go_roundw
              case rel =>
                refine ⟨b' + 1, l2 + 1, cap7, g7, by omega, by omega, hid (by rw [lab_next hab hltb, hl2.out]), rfl, by go_num, hid ?_, hid ?_⟩
                · exact OwnI.of_row (by rw [HNS.out]; exact Hown.out) (numsC_len _ _ _)
                · exact (hB4.out.alloc hsz (.cells #[.int .i64 K] 2)).grown Hgrow.out (by rw [World.size_alloc]; omega) (fun j' e => by have h9 := hO2.out.2; cases e; exact h9)
              case measure => simp [intOf]; omega
        · obtain rfl : b' = 3 := by omega
          go_wp2
          go_roundw
          case rel => exact ⟨a + 1, l2, cap2, g2, by omega, hid (by rw [hl2.out]; exact lab_turn hlt), rfl, by go_num, hO2, hB2⟩
          case measure => simp [intOf]; omega
    · obtain rfl : a = 3 := by omega
      obtain rfl : l = 3 := hla.out
      go_wp2
      go_ret2
      exact ⟨_, _, rfl, FreshI.of_own hO.out.1 (numsC_len _ _ _) (by have := hO.out.2; omega), bfrom HB2.out hB.out⟩

theorem sChainNumbers_any (s : Int) (p : Option Addr) (n c : Nat) (es : List (Int × Int)) (pc : Option Addr) (m d : Nat) (cs : List Int) (w : World) (hm : n ≤ 1048576) (hn : es.length = n) (hr : SeesE w p es) (hm2 : m ≤ 1048576) (hl : cs.length = m) (hrc : SeesI w pc cs) :
    Calls Try.prog 5 #[.agg #[.int .i64 s, .slice p n c], .slice pc m d] w fun e' w' => ∃ q cap, e' = .returned (.tuple #[.slice q (fChainNumbers s es cs).1.length cap, .int .i64 (fChainNumbers s es cs).2]) ∧ FreshI w.heap.size w' q (fChainNumbers s es cs).1.length cap (fChainNumbers s es cs).1 ∧ Below w.heap.size w w' := by
  unfold fChainNumbers
  by_cases g : IsG s es
  · rw [if_pos g]
    by_cases gc : isColP es cs
    · rw [if_pos gc]
      obtain ⟨b, off, rfl, rd⟩ := isG_sees g hr
      obtain ⟨cb, co, rfl, rc⟩ := cols_seesQ g gc hrc
      dsimp only
      rw [numsC_len]
      exact sNums_yes s b off n c cb co m d es cs w hn rd hl rc g gc
    · rw [if_neg gc]
      exact (sNums_code s 2 p pc n c m d es cs w hn (by omega) hr hl hm2 hrc (by unfold colsCode; rw [if_pos g, if_neg (fun h => gc (h 0 (by omega)))]) rfl).mono fun e w' ⟨he, hb⟩ => ⟨none, 0, he, FreshI.nil _ _, hb⟩
  · rw [if_neg g]
    exact (sNums_code s 1 p pc n c m d es cs w hn (by omega) hr hl hm2 hrc (by unfold colsCode; rw [if_neg g]) rfl).mono fun e w' ⟨he, hb⟩ => ⟨none, 0, he, FreshI.nil _ _, hb⟩

end Go.Proofs.Ytjkemganbfldpaa
