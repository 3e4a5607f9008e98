/- CoverNumber in the model. -/
import Derived.Test.YtaafbdpdpndplaaCvnA
import Derived.Test.YtaafbdpdpndplaaMwS
import Derived.Deep.AppendLies
import Derived.Deep.DeepMust
import Derived.Test.YtaafbdpdpndplaaCvnP
import Derived.Deep.RegionWith
import Derived.Deep.DeepCutAuto

/- Covers by matchings in the model: l04Cover. -/
namespace Go.Proofs.Ytaafbdpdpndplaa
open Go.RowKit Go.Lib

theorem infoBoolC : (Try.prog.info? 4).map (fun i => (i.zero, i.size, i.bytes)) = some (some (.bool false), 1, 1) := by kernel_rfl
def boolV (xs : List Bool) : List Value := xs.map Value.bool
theorem boolV_at {xs : List Bool} {i : Nat} (hi : i < xs.length) : (boolV xs)[i]? = some (.bool (eL xs i)) := by
  unfold boolV
  rw [List.getElem?_map, List.getElem?_eq_getElem hi, eL_lt hi]
  rfl
theorem boolV_one (xs : List Bool) : ∀ u ∈ boolV xs, u.oneCell' = true := fun u hu => by
  obtain ⟨x, _, rfl⟩ := List.mem_map.1 hu
  rfl
theorem row_new_boolC (w : World) : (w.alloc (.cells #[] 4)).ownsRow w.heap.size 4 1 (.slice (some ⟨w.heap.size, 0, none⟩) 0 0) 0 [] := by
  have h := World.ownsRow_made (base := w.heap.size) (e := 4) (size := 1) w #[] 0 (by omega) (Nat.zero_le _) rfl
  simpa only [World.size_alloc] using h
theorem OwnB.of_row {w : World} {base g n cap : Nat} {xs : List Bool} (h : w.ownsRow base 4 1 (.slice (some ⟨g, 0, none⟩) n cap) n (boolV xs)) (hl : xs.length = n) : OwnB w g cap xs ∧ base ≤ g := by
  rcases h.2 with ⟨h0, _⟩ | ⟨g', cap', cur, hv, hb, hg, hn, hm, hs, ht⟩
  · cases h0
  · injection hv with e1 e2 e3
    simp only [Option.some.injEq, Addr.mk.injEq] at e1
    obtain ⟨rfl, _⟩ := e1
    subst e3
    refine ⟨⟨cur, hg, by omega, by omega, hm, fun i hi => ?_⟩, hb⟩
    have h1 : (cur.toList.take (n * 1))[i]? = cur.toList[i]? := by rw [List.getElem?_take, if_pos (by omega)]
    rw [ht, boolV_at hi] at h1
    rw [← Array.getElem?_toList, ← h1]
theorem OwnB.news {w : World} {g cap : Nat} {xs : List Bool} (h : OwnB w g cap xs) : ∀ j u, (boolV xs)[j]? = some u → w.cell? ((⟨g, 0, none⟩ : Addr).add j) = some u := fun j u hj => by
  have hl : j < xs.length := by
    have := (List.getElem?_eq_some_iff.1 hj).1
    simpa [boolV] using this
  rw [boolV_at hl] at hj
  have e0 : (⟨g, 0, none⟩ : Addr).add j = ⟨g, j, none⟩ := by
    unfold Addr.add
    split <;> simp_all
  rw [e0, h.cell hl]
  exact hj
theorem any_mapS {Us : List (List Int)} {f : List Int → Bool} (h : ∀ i, i < Us.length → f (lI Us i) = false) : Us.any f = false := by
  rw [List.any_eq_false]
  intro x hx
  obtain ⟨i, hi, e⟩ := List.getElem_of_mem hx
  have h1 := h i hi
  unfold lI at h1
  rw [List.getD_eq_getElem?_getD, List.getElem?_eq_getElem hi] at h1
  rw [← e]
  simpa using h1
theorem lI_memS {Us : List (List Int)} {i : Nat} (hi : i < Us.length) : lI Us i ∈ Us := by
  unfold lI
  rw [List.getD_eq_getElem?_getD, List.getElem?_eq_getElem hi]
  exact List.getElem_mem _

set_option maxRecDepth 100000 in
set_option maxHeartbeats 16000000 in
theorem sCov_any (s : Int) (p : Option Addr) (nn cc : Nat) (Us : List (List Int)) (n m : Nat) (q : Option Addr) (c : Nat) (hn : 1 ≤ n ∧ n ≤ 30) (hm : Us.length = m) (hm9 : m ≤ 1000) (hin : ∀ x, x ∈ Us → ∀ y, y ∈ x → 0 ≤ y ∧ y < (n : Int)) (hrow : ∀ x, x ∈ Us → x.length ≤ 20) :
    ∀ (k : Nat) (cov : List Bool) (gc capc : Nat) (w : World), k ≤ 1000 → cov.length = n → OwnB w gc capc cov → SeesL w q Us →
    Calls Try.prog 13 #[.agg #[.int .i64 s, .slice p nn cc], .slice q m c, .slice (some ⟨gc, 0, none⟩) n capc, .int .i64 (k : Int)] w fun e w' => e = .returned (.bool (covB Us n k cov)) ∧ Below w.heap.size w w' := by
  obtain ⟨i0, hi, hz0, hz1, hz2⟩ := info_parts infoBoolC
  have Hi := hid hi
  have HM := hid hm
  have Hin := hid hin
  have HRow := hid hrow
  clear hi hm hin hrow
  intro k
  induction k with
  | zero =>
    intro cov gc capc w hk hl hO hS
    have HL := hid hl
    have HO := hid (hO.on (on_alloc w (.cells #[.int .i64 s, .slice p nn cc] 30)))
    have HB1 := hid (on_alloc w (.cells #[.int .i64 s, .slice p nn cc] 30))
    obtain ⟨r, hR⟩ : ∃ r, covB Us n 0 cov = r := ⟨_, rfl⟩
    rw [hR]
    have HR := hid hR
    clear hl hO hS hR
    go_enter Try.func13, Try.ntmps13
    go_wp2
    obtain ⟨w1, hw1⟩ : ∃ w1, w1 = w.alloc (.cells #[.int .i64 s, .slice p nn cc] 30) := ⟨_, rfl⟩
    rw [← hw1] at HO HB1 ⊢
    clear hw1
    go_loop [9] (fun i => ∃ j : Nat, j ≤ n ∧ i = .int .i64 j ∧ Hid (∀ t, t < j → eL cov t = true)) (fun i => n - (intOf i).toNat)
    case atStart => exact ⟨0, Nat.zero_le _, rfl, hid (fun t ht => absurd ht (by omega))⟩
    case round =>
      obtain ⟨j, hj, rfl, hE⟩ := hrel
      by_cases hjn : j < n
      · have hjn' : (j : Int) < (n : Int) := by omega
        have hcell := HO.out.cell (i := j) (by rw [HL.out]; exact hjn)
        have hgl := HO.out.lt
        obtain ⟨b, hb⟩ : ∃ b, eL cov j = b := ⟨_, rfl⟩
        rw [hb] at hcell
        have HB := hid hb
        clear hb
        cases b
        · have HF := hid (show lstF cov n = j from lstF_is hj hE.out (fun _ => HB.out))
          have HE := hid (show r = false by rw [← HR.out, covB_zero, HF.out]; exact decide_eq_false (by omega))
          have hne : ((j : Int) == (n : Int)) = false := by simp; omega
          go_wp2
          clear hcell hgl
          go_loopw [10] (fun i wr => i = .int .i64 0 ∧ Hid (wr = w1)) (fun _ _ => 0)
          case atStart => exact ⟨rfl, hid rfl⟩
          case round =>
            obtain ⟨rfl, hW⟩ := hrel
            obtain ⟨wo, rfl⟩ : ∃ wo : World, wo = wr := ⟨_, rfl⟩
            have HB9 := hid (show Below w.heap.size w wo by rw [hW.out]; exact HB1.out)
            by_cases hm0 : (0 : Int) < (m : Int)
            · go_wp2
              go_ret
              rw [HE.out]
              exact ⟨rfl, HB9.out⟩
            · go_wp2
              go_ret
              rw [HE.out]
              exact ⟨rfl, HB9.out⟩
        · go_wp2
          go_round
          case rel =>
            refine ⟨j + 1, by omega, by go_num, hid (fun t ht => ?_)⟩
            rcases Nat.lt_or_ge t j with h | h
            · exact hE.out t h
            · obtain rfl : t = j := by omega
              exact HB.out
          case measure => simp [intOf]; omega
      · obtain rfl : j = n := by omega
        have HE := hid (show r = true by rw [← HR.out]; exact covB_done _ (lstF_is hj hE.out (fun h => absurd h (by omega))))
        go_wp2
        go_ret
        rw [HE.out]
        exact ⟨rfl, HB1.out⟩
  | succ k ih =>
    intro cov gc capc w hk hl hO hS
    have HL := hid hl
    have HO := hid (hO.on (on_alloc w (.cells #[.int .i64 s, .slice p nn cc] 30)))
    have HS := hid (hS.on (on_alloc w (.cells #[.int .i64 s, .slice p nn cc] 30)))
    have HB1 := hid (on_alloc w (.cells #[.int .i64 s, .slice p nn cc] 30))
    have HX1 := hid (Box.new w s p nn cc 30)
    have HIH := hid ih
    obtain ⟨r, hR⟩ : ∃ r, covB Us n (k + 1) cov = r := ⟨_, rfl⟩
    rw [hR]
    have HR := hid hR
    clear hl hO hS ih hR
    go_enter Try.func13, Try.ntmps13
    go_wp2
    obtain ⟨w1, hw1⟩ : ∃ w1, w1 = w.alloc (.cells #[.int .i64 s, .slice p nn cc] 30) := ⟨_, rfl⟩
    rw [← hw1] at HO HS HB1 HX1 ⊢
    clear hw1
    go_loop [9] (fun i => ∃ j : Nat, j ≤ n ∧ i = .int .i64 j ∧ Hid (∀ t, t < j → eL cov t = true)) (fun i => n - (intOf i).toNat)
    case atStart => exact ⟨0, Nat.zero_le _, rfl, hid (fun t ht => absurd ht (by omega))⟩
    case round =>
      obtain ⟨j, hj, rfl, hE⟩ := hrel
      by_cases hjn : j < n
      · have hjn' : (j : Int) < (n : Int) := by omega
        have hcell := HO.out.cell (i := j) (by rw [HL.out]; exact hjn)
        have hgl := HO.out.lt
        obtain ⟨b, hb⟩ : ∃ b, eL cov j = b := ⟨_, rfl⟩
        rw [hb] at hcell
        have HB := hid hb
        clear hb
        cases b
        · have HF := hid (show lstF cov n = j from lstF_is hj hE.out (fun _ => HB.out))
          have HGo := hid (show (Us.any fun x => decide ((j : Int) ∈ x) && covB Us n k (mkC cov x)) = r by
            have h := HR.out
            rw [covB_go (by rw [HF.out]; omega), HF.out] at h
            exact h)
          have hne : ((j : Int) == (n : Int)) = false := by simp; omega
          clear hcell hgl
          have hcell := HO.out.cell (i := j) (by rw [HL.out]; exact hjn)
          rw [HB.out] at hcell
          have hgl := HO.out.lt
          go_wp2
          clear hcell hgl
          go_loopw [10] (fun i wr => ∃ t : Nat, t ≤ m ∧ i = .int .i64 t ∧ Hid (∀ a, a < t → (decide ((j : Int) ∈ lI Us a) && covB Us n k (mkC cov (lI Us a))) = false) ∧ Hid (Below w1.heap.size w1 wr)) (fun i _ => m - (intOf i).toNat)
          case atStart => exact ⟨0, Nat.zero_le _, rfl, hid (fun t ht => absurd ht (by omega)), hid (Below.refl _ _)⟩
          case round =>
            obtain ⟨t, ht, rfl, hN, hB⟩ := hrel
            obtain ⟨wo, rfl⟩ : ∃ wo : World, wo = wr := ⟨_, rfl⟩
            by_cases hlt : t < m
            · have hkl : t < Us.length := by rw [HM.out]; exact hlt
              obtain ⟨b1, o1, rfl, hrd⟩ : ∃ b1 o1, q = some ⟨b1, o1, none⟩ ∧ ReadsL wo b1 o1 Us := by
                rcases HS.out.on hB.out with h | h
                · rw [h] at hkl; simp at hkl
                · exact h
              obtain ⟨q1, c1, hcell, hsee⟩ := hrd t hkl
              have hb1w := World.block_lt_of_cell? wo _ hcell
              have hmem := lI_memS hkl
              obtain ⟨xs, hxs⟩ : ∃ xs, lI Us t = xs := ⟨_, rfl⟩
              rw [hxs] at hcell hsee hmem
              obtain ⟨l, hl⟩ : ∃ l, xs.length = l := ⟨_, rfl⟩
              have hl20 : l ≤ 20 := by rw [← hl]; exact HRow.out xs hmem
              rw [hl] at hcell
              have HXn := hid (Hin.out xs hmem)
              have HSe := hid hsee
              have HLl := hid hl
              have HXs := hid hxs
              have HRd := hid hrd
              obtain ⟨d, hd⟩ : ∃ d, decide ((j : Int) ∈ xs) = d := ⟨_, rfl⟩
              have HD := hid hd
              have hltz : (t : Int) < (m : Int) := by omega
              have hkp : (0 : Int) < (k : Int) + 1 := by omega
              have HMem := hid hmem
              clear hrd hsee hmem hxs hl hd
              cases d
              · go_wp2_with (go_at_call 23; refine (sHas_any q1 l c1 (j : Int) xs _ HLl.out (by omega) HSe.out).mono ?_; rw [HD.out]; rintro e' w' ⟨rfl, rfl⟩)
                go_roundw
                case rel =>
                  refine ⟨t + 1, by omega, by go_num, hid (fun a ha => ?_), hB⟩
                  rcases Nat.lt_or_ge a t with h | h
                  · exact hN.out a h
                  · obtain rfl : a = t := by omega
                    rw [HXs.out, HD.out, Bool.false_and]
                case measure => simp [intOf]; omega
              · go_wp2_with fail
                refine (sHas_any q1 l c1 (j : Int) xs _ HLl.out (by omega) HSe.out).mono ?_
                rw [HD.out]
                rintro e' w' ⟨rfl, rfl⟩
                have HOa := hid ((HO.out.on hB.out).alloc (.cells #[] 4))
                have HRw := hid (row_new_boolC wo)
                have hzo := hB.out.size
                go_wp2_with (at_builtin; go_must (refine wpList_append_lies _ rfl (.tmp 46) (.tmp 47) 40 rfl wo.heap.size 4 i0 (.bool false) 1 1 Try.underlying40 Hi.out hz0 hz1 hz2 rfl (by decide) (.slice (some ⟨wo.heap.size, 0, none⟩) 0 0) 0 [] rfl HRw.out ⟨gc, 0, none⟩ n capc (boolV cov) rfl (by simp [boolV, HL.out]) HOa.out.news (boolV_one cov) (by omega) (by unfold maxLen; omega) (by omega) (by simp) (wo.heap.size + 1) (by simp) ?_); intro g cap9 w5 hown1 hgrow1 hlie hg1; (try simp only [Nat.zero_add, List.nil_append] at hown1 ⊢); have HOw := hid (OwnB.of_row hown1 HL.out); have Hgrow := hid hgrow1; clear hown1 hgrow1 hlie)
                have HB5 := hid (show Below wo.heap.size wo w5 from ((Below.refl wo.heap.size wo).alloc (Nat.le_refl _) _).grown Hgrow.out (by simp) (fun i hi => by have h : wo.heap.size = i := Option.some.inj hi; omega))
                have hgo := HOw.out.2
                have HOw1 := hid HOw.out.1
                clear HOw Hgrow
                go_wp2
                go_loopw [12] (fun i wr => ∃ a : Nat, a ≤ l ∧ i = .int .i64 a ∧ Hid (OwnB wr g cap9 (mkC cov (xs.take a))) ∧ Hid (Below wo.heap.size wo wr)) (fun i _ => l - (intOf i).toNat)
                case atStart => exact ⟨0, Nat.zero_le _, rfl, HOw1, HB5⟩
                case round =>
                  obtain ⟨a, ha, rfl, hOa, hBa⟩ := hrel
                  obtain ⟨wi, rfl⟩ : ∃ wi : World, wi = wr := ⟨_, rfl⟩
                  have hci := (hBa.out.cell (p := ⟨b1, o1 + t, none⟩) hb1w).trans hcell
                  have hbi : b1 < wi.heap.size := Nat.lt_of_lt_of_le hb1w hBa.out.size
                  by_cases hal : a < l
                  · have hal' : (a : Int) < (l : Int) := by omega
                    obtain ⟨b2, o2, rfl, hri⟩ : ∃ b2 o2, q1 = some ⟨b2, o2, none⟩ ∧ ReadsI wi b2 o2 xs := by
                      rcases HSe.out.on hBa.out with h | h
                      · have := HLl.out; rw [h] at this; simp at this; omega
                      · exact h
                    have hce := hri a (by rw [HLl.out]; exact hal)
                    obtain ⟨y, hy⟩ : ∃ y, eI xs a = y := ⟨_, rfl⟩
                    have hyx := HXn.out y (by rw [← hy]; exact eI_mem (by rw [HLl.out]; exact hal))
                    obtain ⟨Y, rfl⟩ : ∃ Y : Nat, y = Y := ⟨_, (Int.toNat_of_nonneg hyx.1).symm⟩
                    have hYn : Y < n := by omega
                    rw [hy] at hce
                    have hbe := World.block_lt_of_cell? wi _ hce
                    dsimp only at hbe
                    have hlm : (mkC cov (xs.take a)).length = n := by rw [mkC_len]; exact HL.out
                    have hcg := hOa.out.cell (i := Y) (by rw [hlm]; exact hYn)
                    have hfg := hOa.out.free Y
                    have hgl := hOa.out.lt
                    have HO9 := hid (show OwnB (wi.setCell ⟨g, Y, none⟩ (.bool true)) g cap9 (mkC cov (xs.take (a + 1))) by
                      have h := hOa.out.set (k := Y) (by rw [hlm]; exact hYn) true
                      have e : xs.take (a + 1) = xs.take a ++ [(Y : Int)] := by
                        rw [List.take_add_one, List.getElem?_eq_getElem (by rw [HLl.out]; exact hal), ← eI_lt (by rw [HLl.out]; exact hal), hy]
                        rfl
                      rw [e, mkC_snoc]
                      exact h)
                    clear hri hy hyx hlm
                    go_wp2
                    go_roundw
                    case rel => exact ⟨a + 1, by omega, by go_num, HO9, hid (hBa.out.setCell (p := ⟨g, Y, none⟩) hgo _)⟩
                    case measure => simp [intOf]; omega
                  · obtain rfl : a = l := by omega
                    have hOe := hOa.out
                    rw [List.take_of_length_le (by rw [HLl.out]; exact Nat.le_refl _)] at hOe
                    have HB6 := hid (hB.out.trans (hBa.out.mono hzo))
                    have HC := hid (HIH.out (mkC cov xs) g cap9 wi (by omega) (by rw [mkC_len]; exact HL.out) hOe (HS.out.on HB6.out))
                    have HX6 := hid (HX1.out.on HB6.out)
                    have hx6 := HX6.out.1
                    have hy6 := HX6.out.2
                    have hz6 := HX6.out.lt
                    have hal' : ¬ (a : Int) < (a : Int) := by omega
                    clear hOe
                    cases hv : covB Us n k (mkC cov xs)
                    · go_wp2_with fail
                      refine HC.out.mono ?_
                      rw [hv]
                      rintro e' w7 ⟨rfl, hb7⟩
                      have HB7 := hid (HB6.out.trans (hb7.mono HB6.out.size))
                      clear hb7
                      go_wp2
                      go_roundw
                      case rel =>
                        refine ⟨t + 1, by omega, by go_num, hid (fun a ha => ?_), HB7⟩
                        rcases Nat.lt_or_ge a t with h | h
                        · exact hN.out a h
                        · obtain rfl : a = t := by omega
                          rw [HXs.out, hv, Bool.and_false]
                      case measure => simp [intOf]; omega
                    · have HE := hid (show r = true by
                        rw [← HGo.out]
                        exact List.any_eq_true.2 ⟨xs, HMem.out, by rw [HD.out, hv]; rfl⟩)
                      go_wp2_with fail
                      refine HC.out.mono ?_
                      rw [hv]
                      rintro e' w7 ⟨rfl, hb7⟩
                      have HB7 := hid (HB1.out.trans ((HB6.out.trans (hb7.mono HB6.out.size)).mono HB1.out.size))
                      clear hb7
                      go_wp2
                      go_ret
                      rw [HE.out]
                      exact ⟨rfl, HB7.out⟩
            · obtain rfl : t = m := by omega
              have HE := hid (show r = false by rw [← HGo.out]; exact any_mapS fun a ha => hN.out a (by rw [HM.out] at ha; exact ha))
              have hltz : ¬ (t : Int) < (t : Int) := by omega
              go_wp2
              go_ret
              rw [HE.out]
              exact ⟨rfl, HB1.out.trans (hB.out.mono HB1.out.size)⟩
        · go_wp2
          go_round
          case rel =>
            refine ⟨j + 1, by omega, by go_num, hid (fun t ht => ?_)⟩
            rcases Nat.lt_or_ge t j with h | h
            · exact hE.out t h
            · obtain rfl : t = j := by omega
              exact HB.out
          case measure => simp [intOf]; omega
      · obtain rfl : j = n := by omega
        have HE := hid (show r = true by rw [← HR.out]; exact covB_done _ (lstF_is hj hE.out (fun h => absurd h (by omega))))
        go_wp2
        go_ret
        rw [HE.out]
        exact ⟨rfl, HB1.out⟩

end Go.Proofs.Ytaafbdpdpndplaa

namespace Go.Proofs.Ytaafbdpdpndplaa
open Go.RowKit Go.Lib

theorem falses_newC (w : World) (g m : Nat) (ZC : Array Value) (hz : ZC = madeCells (Value.bool false).cells (m * 1)) (hg : g = w.heap.size) (hm : m ≤ 30) : OwnB (w.alloc (.cells ZC 4)) g m (List.replicate m false) := by
  subst hg
  subst hz
  refine ⟨_, heap_alloc_new w _, by rw [size_madeCells, Nat.mul_one], by simp, by unfold maxLen; omega, fun i hi => ?_⟩
  have hi' : i < m := by simpa using hi
  rw [eL_lt (by simpa using hi')]
  simp [madeCells, hi', Value.cells, Nat.mod_one]
theorem cwE_pos {e : Nat} {Us : List (List Int)} : cwE e Us ≠ 0 ↔ ∃ x, x ∈ Us ∧ (e : Int) ∈ x := by
  unfold cwE
  constructor
  · intro h
    obtain ⟨x, hx⟩ := List.exists_mem_of_length_pos (Nat.pos_of_ne_zero h)
    have h2 := List.mem_filter.1 hx
    exact ⟨x, h2.1, of_decide_eq_true h2.2⟩
  · rintro ⟨x, h1, h2⟩ h
    have h3 : x ∈ Us.filter fun x => decide ((e : Int) ∈ x) := List.mem_filter.2 ⟨h1, decide_eq_true h2⟩
    have h4 := List.length_pos_of_mem h3
    omega

set_option maxRecDepth 100000 in
set_option maxHeartbeats 2000000 in
theorem sCvn_no (s : Int) (p : Option Addr) (n c : Nat) (es : List (Int × Int)) (w : World) (hm : n ≤ 1048576) (hn : es.length = n) (hr : SeesE w p es) (g : ¬ IsG s es) :
    Calls Try.prog 5 #[.agg #[.int .i64 s, .slice p n c]] w fun e' w' => e' = .returned (.tuple #[.int .i64 0, .int .i64 1]) ∧ Below w.heap.size w w' := by
  have Hn := hid hn
  have Hr := hid hr
  have G := hid g
  clear hn hr g
  go_enter Try.func5, Try.ntmps5
  go_wp2_with fail
  refine (sIs_any _ _ _ _ es _ (by omega) Hn.out (Hr.out.on (on_alloc _ _))).mono ?_
  rw [decide_eq_false G.out]
  rintro e w2 ⟨rfl, hb2⟩
  have hB2 := bfrom (w := w) (by go_grown) hb2
  go_wp2
  go_ret2
  exact ⟨rfl, hB2⟩

set_option maxRecDepth 100000 in
set_option maxHeartbeats 8000000 in
theorem sCvn_yes (N H : Nat) (b off n c : Nat) (es : List (Int × Int)) (w : World) (hn : es.length = n) (hr : ReadsE w b off es) (g : IsG N es) (hH : N = 2 * H) :
    Calls Try.prog 5 #[.agg #[.int .i64 N, .slice (some ⟨b, off, none⟩) n c]] w fun e' w' => e' = .returned (.tuple #[.int .i64 (cvF (mtL N es) n).1, .int .i64 (cvF (mtL N es) n).2]) ∧ Below w.heap.size w w' := by
  have hn30 : n ≤ 30 := by have := isG_len g; omega
  have hnH : n = 3 * H ∧ 1 ≤ H := by
    have := g.1.1.1
    have := g.1.1.2.2.2
    omega
  have hin : ∀ x, x ∈ mtL N es → ∀ y, y ∈ x → 0 ≤ y ∧ y < (n : Int) := fun x hx y hy => by rw [← hn]; exact mtL_in hx y hy
  have hlen : ∀ x, x ∈ mtL N es → x.length = H := fun x hx => by rw [mtL_len hx]; omega
  have hH10 : H ≤ 10 := by omega
  have hle : (mtL N es).length ≤ 60000 := by
    have h := mtF_le g (N / 2) [] (List.replicate 20 false)
    have h2 := pow3_le (H := N / 2) (by have := g.1.1.2.1; omega)
    exact Nat.le_trans h (by omega)
  have HA := hid (fun (w2 : World) (hr2 : ReadsE w2 b off es) => sAll_any N b off n c H es w2 g hn hr2 hH)
  have Hn := hid hn
  have Hr := hid hr
  have G := hid g
  obtain ⟨s, hs⟩ : ∃ s : Int, (N : Int) = s := ⟨_, rfl⟩
  obtain ⟨Us, hUs⟩ : ∃ Us, mtL N es = Us := ⟨_, rfl⟩
  rw [hs] at G
  rw [hUs, hs] at HA
  rw [hUs] at hin hlen hle ⊢
  rw [hs]
  obtain ⟨r, hRr⟩ : ∃ r, cvF Us n = r := ⟨_, rfl⟩
  rw [hRr]
  have HR := hid hRr
  have Hin := hid hin
  have HLen := hid hlen
  obtain ⟨m, hm⟩ : ∃ m, Us.length = m := ⟨_, rfl⟩
  rw [hm] at hle
  rw [hm] at HA
  have HM := hid hm
  obtain ⟨i0, hi, hz0, hz1, hz2⟩ := info_parts infoBoolC
  have hmk0 : ∀ w', (Instr.makeSlice 40 (.int .i64 n) (.int .i64 n)).run Try.prog w' = .ok (.slice (some ⟨w'.heap.size, 0, none⟩) n n) (w'.alloc (.cells (madeCells (Value.bool false).cells (n * 1)) 4)) := fun w' => by
    have h := run_makeSlice (P := Try.prog) w' 40 4 i0 (.bool false) Try.underlying40 hi hz0 .i64 .i64 n n (by omega) (Int.le_refl _) (by rw [hz1]; omega) (by rw [hz2]; omega) (by omega)
    rw [hz1] at h
    simpa using h
  obtain ⟨ZC, hZC⟩ : ∃ ZC, ZC = madeCells (Value.bool false).cells (n * 1) := ⟨_, rfl⟩
  have hmk : ∀ w', (Instr.makeSlice 40 (.int .i64 n) (.int .i64 n)).run Try.prog w' = .ok (.slice (some ⟨w'.heap.size, 0, none⟩) n n) (w'.alloc (.cells ZC 4)) := by rw [hZC]; exact hmk0
  have HZC := hid hZC
  have HnH := hid hnH
  clear hn hr g hH hs hUs hin hlen hRr hm hi hmk0 hZC hnH
  go_enter Try.func5, Try.ntmps5
  go_wp2_with fail
  refine (sIs_any _ _ _ _ es _ (by omega) Hn.out (SeesE.on (.inr ⟨b, off, rfl, Hr.out⟩) (on_alloc _ _))).mono ?_
  rw [decide_eq_true G.out]
  rintro e w2 ⟨rfl, hb2⟩
  have HB2 := hid (bfrom (w := w) (on_alloc _ _) hb2)
  have HX2 := hid ((Box.new w s (some ⟨b, off, none⟩) n c 30).on hb2)
  have hx2 := HX2.out.1
  have hy2 := HX2.out.2
  have hz2' := HX2.out.lt
  clear hb2
  go_wp2_with fail
  refine (HA.out w2 (Hr.out.on HB2.out)).mono ?_
  rintro e w3 ⟨q3, cap3, vals3, rfl, hr3, hb3⟩
  have HB3 := hid (bfrom HB2.out hb3)
  have HX3 := hid (HX2.out.on hb3)
  have HS := hid hr3.seesL
  clear hr3 hb3 hx2 hy2 hz2'
  by_cases h60 : m ≤ 60
  · have hle60 : ¬ (60 : Int) < (m : Int) := by omega
    have hcv := HR.out
    unfold cvF at hcv
    rw [if_pos (show Us.length ≤ 60 by rw [HM.out]; exact h60)] at hcv
    have HCV := hid hcv
    have hx3 := HX3.out.1
    have hy3 := HX3.out.2
    have hz3 := HX3.out.lt
    clear hcv
    go_wp2
    go_loop [5] (fun i => ∃ e : Nat, e ≤ n ∧ i = .int .i64 e ∧ Hid (∀ j, j < e → cwE j Us ≠ 0)) (fun i => n - (intOf i).toNat)
    case atStart => exact ⟨0, Nat.zero_le _, rfl, hid (fun j hj => absurd hj (by omega))⟩
    case round =>
      obtain ⟨e, he, rfl, hE⟩ := hrel
      by_cases hen : e < n
      · have hen' : (e : Int) < (n : Int) := by omega
        obtain ⟨C, hC⟩ : ∃ C, cwE e Us = C := ⟨_, rfl⟩
        have HC := hid (sWith_any q3 m cap3 e Us w3 hle HM.out HS.out (fun i hi => by
          have h1 := HLen.out _ (lI_mem (Us := Us) (i := i) (by rw [HM.out]; exact hi))
          omega))
        rw [hC] at HC
        by_cases hC0 : C = 0
        · have g1 : ((C : Int) == 0) = true := by simp; omega
          have HE := hid (show r = (0, 4) by
            rw [← HCV.out, if_neg (fun h => by
              have h2 := cwE_pos.2 (allB_iff.1 h e hen)
              exact h2 (hC.trans hC0))])
          clear hC hC0
          go_wp2_with fail
          refine HC.out.mono ?_
          rintro e' w' ⟨rfl, rfl⟩
          go_wp2
          go_ret2
          rw [HE.out]
          exact ⟨rfl, HB3.out⟩
        · have g1 : ((C : Int) == 0) = false := by simp; omega
          have HCn := hid (show cwE e Us ≠ 0 by rw [hC]; exact hC0)
          clear hC hC0
          go_wp2_with fail
          refine HC.out.mono ?_
          rintro e' w' ⟨rfl, rfl⟩
          go_wp2
          go_round
          case rel =>
            refine ⟨e + 1, by omega, by go_num, hid (fun j hj => ?_)⟩
            rcases Nat.lt_or_ge j e with h | h
            · exact hE.out j h
            · obtain rfl : j = e := by omega
              exact HCn.out
          case measure => simp [intOf]; omega
      · obtain rfl : e = n := by omega
        have hAll : AllIn Us e := fun i hi => cwE_pos.1 (hE.out i hi)
        have HE := hid (show r = (((covN Us e : Nat) : Int), 0) by rw [← HCV.out, if_pos (allB_iff.2 hAll)])
        have HT := hid (covB_most hAll Hin.out e (List.replicate e false) (by simp) (by rw [unmF_fresh e e (Nat.le_refl _)]; exact Nat.le_refl _))
        have H0 := hid (show ∀ j, j < 3 → covB Us e j (List.replicate e false) = false from fun j hj => covB_few HLen.out Hin.out j _ (by simp) (by
          rw [unmF_fresh e e (Nat.le_refl _)]
          have h1 : j * H ≤ 2 * H := Nat.mul_le_mul_right H (by omega)
          have := HnH.out
          omega))
        have hn3 : 3 ≤ e := by have := HnH.out; omega
        have hen' : ¬ (e : Int) < (e : Int) := by omega
        clear hAll
        go_wp2
        clear hx3 hy3 hz3
        go_loopw [6] (fun v wr => ∃ k : Nat, 3 ≤ k ∧ k ≤ e ∧ v = .int .i64 k ∧ Hid (∀ j, j < k → covB Us e j (List.replicate e false) = false) ∧ Hid (Below w3.heap.size w3 wr)) (fun v _ => e - (intOf v).toNat)
        case atStart => exact ⟨3, Nat.le_refl _, hn3, rfl, H0, hid (Below.refl _ _)⟩
        case round =>
          obtain ⟨k, hk3, hk, rfl, hF, hB⟩ := hrel
          obtain ⟨wo, rfl⟩ : ∃ wo : World, wo = wr := ⟨_, rfl⟩
          have HX4 := hid (HX3.out.on hB.out)
          have hx4 := HX4.out.1
          have hy4 := HX4.out.2
          have hz4 := HX4.out.lt
          have HS4 := hid (HS.out.on hB.out)
          go_upto_region 13 with fail
          obtain ⟨d, hd⟩ : ∃ d, covB Us e k (List.replicate e false) = d := ⟨_, rfl⟩
          have HD := hid hd
          clear hd
          go_cut [35] (fun v wx => v = .bool d ∧ Hid (Below wo.heap.size wo wx))
          case first =>
            go_region_with ((go_at_call 13; refine (sCov_any s (some ⟨b, off, none⟩) e c Us e m q3 cap3 ⟨by omega, hn30⟩ HM.out (by omega) Hin.out (fun x hx => by rw [HLen.out x hx]; omega) k (List.replicate e false) _ e _ (by omega) (by simp) (falses_newC _ _ e ZC HZC.out (by first | rfl | simp) hn30) (HS4.out.on (by first | exact (Below.refl _ _).drew.alloc (Nat.le_refl _) _ | go_grown))).mono ?_; rw [HD.out]; rintro e' w6 ⟨rfl, hb6⟩; have HB6 := hid (show Below wo.heap.size wo w6 from bfrom (by first | exact (Below.refl _ _).drew.alloc (Nat.le_refl _) _ | go_grown) hb6)))
            all_goals (go_wp2_with fail; go_meet; exact ⟨rfl, HB6⟩)
          case rest =>
            obtain ⟨rfl, hBw⟩ := hcut
            obtain ⟨w4, rfl⟩ : ∃ w4, w4 = wc := ⟨_, rfl⟩
            cases d
            · have hke : k < e := by
                rcases Nat.lt_or_ge k e with h | h
                · exact h
                · obtain rfl : k = e := by omega
                  have h2 := HT.out
                  rw [HD.out] at h2
                  cases h2
              go_wp2
              go_roundw
              case rel =>
                refine ⟨k + 1, by omega, by omega, by go_num, hid (fun j hj => ?_), hid (hB.out.trans (hBw.out.mono hB.out.size))⟩
                rcases Nat.lt_or_ge j k with h | h
                · exact hF.out j h
                · obtain rfl : j = k := by omega
                  exact HD.out
              case measure => simp [intOf]; omega
            · have HN := hid (show covN Us e = k from fstK_is e k _ hk HD.out hF.out)
              go_wp2
              go_ret2
              rw [HE.out, HN.out]
              exact ⟨rfl, HB3.out.trans ((hB.out.trans (hBw.out.mono hB.out.size)).mono HB3.out.size)⟩
  · have HE := hid (show r = (0, 3) by rw [← HR.out]; unfold cvF; rw [if_neg (by rw [HM.out]; exact h60)])
    have hle60 : (60 : Int) < (m : Int) := by omega
    go_wp2
    go_ret2
    rw [HE.out]
    exact ⟨rfl, HB3.out⟩

theorem sCoverNumber_any (s : Int) (p : Option Addr) (n c : Nat) (es : List (Int × Int)) (w : World) (hm : n ≤ 1048576) (hn : es.length = n) (hr : SeesE w p es) :
    Calls Try.prog 5 #[.agg #[.int .i64 s, .slice p n c]] w fun e' w' => e' = .returned (.tuple #[.int .i64 (fCoverNumber s es).1, .int .i64 (fCoverNumber s es).2]) ∧ Below w.heap.size w w' := by
  unfold fCoverNumber
  by_cases g : IsG s es
  · rw [if_pos g]
    obtain ⟨b, off, rfl, rd⟩ := isG_sees g hr
    obtain ⟨N, rfl⟩ : ∃ N : Nat, s = N := ⟨_, (Int.toNat_of_nonneg (by have := g.1.1.1; omega)).symm⟩
    rw [Int.toNat_natCast, hn]
    exact sCvn_yes N (N / 2) b off n c es w hn rd g (by have := g.1.1.2.2.1; omega)
  · rw [if_neg g]
    exact sCvn_no s p n c es w hm hn hr g

end Go.Proofs.Ytaafbdpdpndplaa
