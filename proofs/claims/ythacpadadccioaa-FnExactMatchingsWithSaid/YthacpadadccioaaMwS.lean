/- MatchingsWith in the model. -/
import Derived.Test.YthacpadadccioaaMtW
import Derived.Test.YthacpadadccioaaMtS
import Derived.Test.YthacpadadccioaaHasS
import Derived.Test.YthacpadadccioaaSeesM
namespace Go.Proofs.Ythacpadadccioaa
open Go.RowKit

theorem cwE_take {e k : Nat} {Ls : List (List Int)} (hk : k < Ls.length) : cwE e (Ls.take (k + 1)) = cwE e (Ls.take k) + if (e : Int) ∈ lI Ls k then 1 else 0 := by
  rw [List.take_add_one, lI_lt hk, cwE_append]
  congr 1
  unfold cwE
  by_cases h : (e : Int) ∈ lI Ls k <;> simp [h]
theorem cwE_le (e : Nat) (Ls : List (List Int)) : cwE e Ls ≤ Ls.length := List.length_filter_le _ _

set_option maxRecDepth 100000 in
set_option maxHeartbeats 4000000 in
theorem sWith_any (q : Option Addr) (m c e : Nat) (Ls : List (List Int)) (w : World) (hm : m ≤ 60000) (hL : Ls.length = m) (hr : SeesL w q Ls) (hrow : ∀ i, i < m → (lI Ls i).length ≤ 1048576) :
    Calls Try.prog 65 #[.slice q m c, .int .i64 e] w fun e' w' => e' = .returned (.int .i64 (cwE e Ls : Nat)) ∧ w = w' := by
  have HL := hid hL
  have Hr := hid hr
  have HRow := hid hrow
  have hm9 : m ≤ 9223372036854775807 := by omega
  obtain ⟨r, hR⟩ : ∃ r, cwE e Ls = r := ⟨_, rfl⟩
  rw [hR]
  have HR := hid hR
  clear hL hr hrow hR
  go_enter Try.func65, Try.ntmps65
  go_wp2
  go_loop [6, 5] (fun i v => ∃ k T : Nat, k ≤ m ∧ i = .int .i64 k ∧ v = .int .i64 T ∧ T ≤ k ∧ Hid (T = cwE e (Ls.take k))) (fun i _ => m - (intOf i).toNat)
  case atStart => exact ⟨0, 0, Nat.zero_le _, rfl, rfl, Nat.le_refl _, hid (by simp [cwE])⟩
  case round =>
    obtain ⟨k, T, hk, rfl, rfl, hTk, hT⟩ := hrel
    by_cases hlt : k < m
    · have hlt' : (k : Int) < (m : Int) := by omega
      have hkl : k < Ls.length := by rw [HL.out]; exact hlt
      obtain ⟨b1, o1, rfl, hrd⟩ : ∃ b1 o1, q = some ⟨b1, o1, none⟩ ∧ ReadsL w b1 o1 Ls := by
        rcases Hr.out with h | h
        · rw [h] at hkl; simp at hkl
        · exact h
      obtain ⟨q', c', hcell, hsee⟩ := hrd k hkl
      have hb1w := World.block_lt_of_cell? w _ hcell
      obtain ⟨xs, hxs⟩ : ∃ xs, lI Ls k = xs := ⟨_, rfl⟩
      have hl9 := HRow.out k hlt
      rw [hxs] at hcell hsee hl9
      obtain ⟨l, hl⟩ : ∃ l, xs.length = l := ⟨_, rfl⟩
      rw [hl] at hcell hl9
      have HXs := hid hxs
      have HLl := hid hl
      have HSee := hid hsee
      obtain ⟨d, hd⟩ : ∃ d, decide ((e : Int) ∈ xs) = d := ⟨_, rfl⟩
      have HD := hid hd
      clear hrd hsee hxs hl hd
      cases d
      · go_wp2_with (go_at_call 116; refine (sHas_any q' l c' (e : Int) xs _ HLl.out hl9 HSee.out).mono ?_; rw [HD.out]; rintro e' w' ⟨rfl, rfl⟩)
        go_round
        case rel => exact ⟨k + 1, T, by omega, by go_num, rfl, by omega, hid (by rw [cwE_take hkl, HXs.out, if_neg (of_decide_eq_false HD.out), Nat.add_zero]; exact hT.out)⟩
        case measure => simp [intOf]; omega
      · go_wp2_with (go_at_call 116; refine (sHas_any q' l c' (e : Int) xs _ HLl.out hl9 HSee.out).mono ?_; rw [HD.out]; rintro e' w' ⟨rfl, rfl⟩)
        go_round
        case rel => exact ⟨k + 1, T + 1, by omega, by go_num, by go_num, by omega, hid (by rw [cwE_take hkl, HXs.out, if_pos (of_decide_eq_true HD.out), ← hT.out])⟩
        case measure => simp [intOf]; omega
    · obtain rfl : k = m := by omega
      have HE := hid (show r = T by rw [← HR.out, hT.out, List.take_of_length_le (by rw [HL.out]; exact Nat.le_refl _)])
      go_wp2
      go_ret
      rw [HE.out]
      exact ⟨rfl, rfl⟩

def fMatchingsWith (s : Int) (es : List (Int × Int)) (x : Int) : Int × Int := if IsG s es then (if 0 ≤ x ∧ x < es.length then ((cwE x.toNat (mtL s.toNat es) : Nat), 0) else (0, 2)) else (0, 1)

set_option maxRecDepth 100000 in
set_option maxHeartbeats 4000000 in
theorem sMw_yes (N H : Nat) (E b off n c : Nat) (es : List (Int × Int)) (w : World) (hn : es.length = n) (hr : ReadsE w b off es) (g : IsG N es) (hH : N = 2 * H) (hE : E < n) :
    Calls Try.prog 26 #[.agg #[.int .i64 N, .slice (some ⟨b, off, none⟩) n c], .int .i64 E] w fun e' w' => e' = .returned (.tuple #[.int .i64 (cwE E (mtL N es) : Nat), .int .i64 0]) ∧ Below w.heap.size w w' := by
  have hn30 : n ≤ 30 := by have := isG_len g; omega
  have Hn := hid hn
  have Hr := hid hr
  have G := hid g
  have HH := hid hH
  have HI := hid (show (0 : Int) ≤ (E : Int) ∧ (E : Int) ≤ (n : Int) - 1 by omega)
  obtain ⟨r, hR⟩ : ∃ r, cwE E (mtL N es) = r := ⟨_, rfl⟩
  rw [hR]
  have HR := hid hR
  have HLen := hid (show (mtL N es).length ≤ 60000 by
    have h := mtF_le g (N / 2) [] (List.replicate 20 false)
    have h2 := pow3_le (H := N / 2) (by have := g.1.1.2.1; omega)
    exact Nat.le_trans h (by omega))
  clear hn hr g hH hR
  go_enter Try.func26, Try.ntmps26
  go_wp2_with fail
  refine (sIs_any _ _ _ _ es _ (by omega) Hn.out (SeesE.on (.inr ⟨b, off, rfl, Hr.out⟩) (on_alloc _ _))).mono ?_
  rw [decide_eq_true G.out]
  rintro e w2 ⟨rfl, hb2⟩
  have HB2 := hid (bfrom (w := w) (on_alloc _ _) hb2)
  have HX2 := hid ((Box.new w N (some ⟨b, off, none⟩) n c 30).on hb2)
  have hx2 := HX2.out.1
  have hy2 := HX2.out.2
  have hz2 := HX2.out.lt
  clear hb2
  go_wp2_with (go_at_call 55; refine (sIn_yes _ _ _ _ HI.out).mono ?_; rintro e' w' ⟨rfl, rfl⟩)
  refine (sAll_any N b off n c H es _ G.out Hn.out (Hr.out.on HB2.out) HH.out).mono ?_
  rintro e w3 ⟨q3, cap3, vals3, he, hr3, hb3⟩
  have HB3 := hid (bfrom HB2.out hb3)
  have HS := hid hr3.seesL
  obtain ⟨T, hT2⟩ : ∃ T, (mtL N es).length = T := ⟨_, rfl⟩
  rw [hT2] at he
  subst he
  have HT := hid hT2
  have hT6 : T ≤ 60000 := by have := HLen.out; omega
  clear hr3 hb3 hx2 hy2 hT2
  go_wp2_with (go_at_call 65; refine (sWith_any q3 T cap3 E (mtL N es) w3 hT6 HT.out HS.out (fun i hi => by
    have h1 := lI_lt (Ls := mtL N es) (i := i) (by rw [HT.out]; exact hi)
    have h2 := mtF_len _ _ _ _ (List.mem_of_getElem? h1)
    have := G.out.1.1.2.1
    rw [h2]
    simp
    omega)).mono ?_; rw [HR.out]; rintro e' w' ⟨rfl, rfl⟩)
  go_ret2
  exact ⟨rfl, HB3.out⟩

set_option maxRecDepth 100000 in
set_option maxHeartbeats 4000000 in
theorem sMw_range (s x : Int) (p : Option Addr) (n c : Nat) (es : List (Int × Int)) (w : World) (hm : n ≤ 1048576) (hn : es.length = n) (hr : SeesE w p es) (g : IsG s es) (hx : x < 0 ∨ (n : Int) - 1 < x) :
    Calls Try.prog 26 #[.agg #[.int .i64 s, .slice p n c], .int .i64 x] w fun e' w' => e' = .returned (.tuple #[.int .i64 0, .int .i64 2]) ∧ Below w.heap.size w w' := by
  have Hn := hid hn
  have Hr := hid hr
  have G := hid g
  have HI := hid hx
  clear hn hr g hx
  go_enter Try.func26, Try.ntmps26
  go_wp2_with fail
  refine (sIs_any _ _ _ _ es _ (by omega) Hn.out (Hr.out.on (on_alloc _ _))).mono ?_
  rw [decide_eq_true G.out]
  rintro e w2 ⟨rfl, hb2⟩
  have HB2 := hid (bfrom (w := w) (on_alloc _ _) hb2)
  have HX2 := hid ((Box.new w s p n c 30).on hb2)
  have hx2 := HX2.out.1
  have hy2 := HX2.out.2
  have hz2 := HX2.out.lt
  clear hb2
  go_wp2_with (go_at_call 55; refine (sIn_no _ _ _ _ HI.out).mono ?_; rintro e' w' ⟨rfl, rfl⟩)
  go_ret2
  exact ⟨rfl, HB2.out⟩

set_option maxRecDepth 100000 in
set_option maxHeartbeats 4000000 in
theorem sMw_none (s x : Int) (p : Option Addr) (n c : Nat) (es : List (Int × Int)) (w : World) (hm : n ≤ 1048576) (hn : es.length = n) (hr : SeesE w p es) (g : ¬ IsG s es) :
    Calls Try.prog 26 #[.agg #[.int .i64 s, .slice p n c], .int .i64 x] w fun e' w' => e' = .returned (.tuple #[.int .i64 0, .int .i64 1]) ∧ Below w.heap.size w w' := by
  have Hn := hid hn
  have Hr := hid hr
  have G := hid g
  clear hn hr g
  go_enter Try.func26, Try.ntmps26
  go_wp2_with fail
  refine (sIs_any _ _ _ _ es _ (by omega) Hn.out (Hr.out.on (on_alloc _ _))).mono ?_
  rw [decide_eq_false G.out]
  rintro e w2 ⟨rfl, hb2⟩
  have HB2 := hid (bfrom (w := w) (on_alloc _ _) hb2)
  clear hb2
  go_wp2
  go_ret2
  exact ⟨rfl, HB2.out⟩

theorem sMatchingsWith_any (s : Int) (p : Option Addr) (n c : Nat) (es : List (Int × Int)) (x : Int) (w : World) (hm : n ≤ 1048576) (hn : es.length = n) (hr : SeesE w p es) :
    Calls Try.prog 26 #[.agg #[.int .i64 s, .slice p n c], .int .i64 x] w fun e' w' => e' = .returned (.tuple #[.int .i64 (fMatchingsWith s es x).1, .int .i64 (fMatchingsWith s es x).2]) ∧ Below w.heap.size w w' := by
  unfold fMatchingsWith
  by_cases g : IsG s es
  · rw [if_pos g]
    by_cases hx : 0 ≤ x ∧ x < es.length
    · rw [if_pos hx]
      obtain ⟨b, off, rfl, rd⟩ := isG_sees g hr
      obtain ⟨N, rfl⟩ : ∃ N : Nat, s = N := ⟨_, (Int.toNat_of_nonneg (by have := g.1.1.1; omega)).symm⟩
      obtain ⟨E, rfl⟩ : ∃ E : Nat, x = E := ⟨_, (Int.toNat_of_nonneg hx.1).symm⟩
      rw [Int.toNat_natCast, Int.toNat_natCast]
      exact sMw_yes N (N / 2) E b off n c es w hn rd g (by have := g.1.1.2.2.1; omega) (by omega)
    · rw [if_neg hx]
      exact sMw_range s x p n c es w hm hn hr g (by omega)
  · rw [if_neg g]
    exact sMw_none s x p n c es w hm hn hr g

end Go.Proofs.Ythacpadadccioaa
