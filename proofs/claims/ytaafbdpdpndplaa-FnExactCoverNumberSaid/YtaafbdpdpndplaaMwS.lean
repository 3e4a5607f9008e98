/- MatchingsWith in the model. -/
import Derived.Test.YtaafbdpdpndplaaMtW
import Derived.Test.YtaafbdpdpndplaaMtS
import Derived.Test.YtaafbdpdpndplaaHasS
import Derived.Test.YtaafbdpdpndplaaSeesM
namespace Go.Proofs.Ytaafbdpdpndplaa
open Go.RowKit

theorem cwE_take {e k : Nat} {Ls : List (List Int)} (hk : k < Ls.length) : cwE e (Ls.take (k + 1)) = cwE e (Ls.take k) + if (e : Int) ∈ lI Ls k then 1 else 0 := by
  rw [List.take_add_one, lI_lt hk, cwE_append]
  congr 1
  unfold cwE
  by_cases h : (e : Int) ∈ lI Ls k <;> simp [h]
theorem cwE_le (e : Nat) (Ls : List (List Int)) : cwE e Ls ≤ Ls.length := List.length_filter_le _ _

set_option maxRecDepth 100000 in
set_option maxHeartbeats 4000000 in
theorem sWith_any (q : Option Addr) (m c e : Nat) (Ls : List (List Int)) (w : World) (hm : m ≤ 60000) (hL : Ls.length = m) (hr : SeesL w q Ls) (hrow : ∀ i, i < m → (lI Ls i).length ≤ 1048576) :
    Calls Try.prog 12 #[.slice q m c, .int .i64 e] w fun e' w' => e' = .returned (.int .i64 (cwE e Ls : Nat)) ∧ w = w' := by
  have HL := hid hL
  have Hr := hid hr
  have HRow := hid hrow
  have hm9 : m ≤ 9223372036854775807 := by omega
  obtain ⟨r, hR⟩ : ∃ r, cwE e Ls = r := ⟨_, rfl⟩
  rw [hR]
  have HR := hid hR
  clear hL hr hrow hR
  go_enter Try.func12, Try.ntmps12
  go_wp2
  go_loop [6, 5] (fun i v => ∃ k T : Nat, k ≤ m ∧ i = .int .i64 k ∧ v = .int .i64 T ∧ T ≤ k ∧ Hid (T = cwE e (Ls.take k))) (fun i _ => m - (intOf i).toNat)
  case atStart => exact ⟨0, 0, Nat.zero_le _, rfl, rfl, Nat.le_refl _, hid (by simp [cwE])⟩
  case round =>
    obtain ⟨k, T, hk, rfl, rfl, hTk, hT⟩ := hrel
    by_cases hlt : k < m
    · have hlt' : (k : Int) < (m : Int) := by omega
      have hkl : k < Ls.length := by rw [HL.out]; exact hlt
      obtain ⟨b1, o1, rfl, hrd⟩ : ∃ b1 o1, q = some ⟨b1, o1, none⟩ ∧ ReadsL w b1 o1 Ls := by
        rcases Hr.out with h | h
        · rw [h] at hkl; simp at hkl
        · exact h
      obtain ⟨q', c', hcell, hsee⟩ := hrd k hkl
      have hb1w := World.block_lt_of_cell? w _ hcell
      obtain ⟨xs, hxs⟩ : ∃ xs, lI Ls k = xs := ⟨_, rfl⟩
      have hl9 := HRow.out k hlt
      rw [hxs] at hcell hsee hl9
      obtain ⟨l, hl⟩ : ∃ l, xs.length = l := ⟨_, rfl⟩
      rw [hl] at hcell hl9
      have HXs := hid hxs
      have HLl := hid hl
      have HSee := hid hsee
      obtain ⟨d, hd⟩ : ∃ d, decide ((e : Int) ∈ xs) = d := ⟨_, rfl⟩
      have HD := hid hd
      clear hrd hsee hxs hl hd
      cases d
      · go_wp2_with (go_at_call 23; refine (sHas_any q' l c' (e : Int) xs _ HLl.out hl9 HSee.out).mono ?_; rw [HD.out]; rintro e' w' ⟨rfl, rfl⟩)
        go_round
        case rel => exact ⟨k + 1, T, by omega, by go_num, rfl, by omega, hid (by rw [cwE_take hkl, HXs.out, if_neg (of_decide_eq_false HD.out), Nat.add_zero]; exact hT.out)⟩
        case measure => simp [intOf]; omega
      · go_wp2_with (go_at_call 23; refine (sHas_any q' l c' (e : Int) xs _ HLl.out hl9 HSee.out).mono ?_; rw [HD.out]; rintro e' w' ⟨rfl, rfl⟩)
        go_round
        case rel => exact ⟨k + 1, T + 1, by omega, by go_num, by go_num, by omega, hid (by rw [cwE_take hkl, HXs.out, if_pos (of_decide_eq_true HD.out), ← hT.out])⟩
        case measure => simp [intOf]; omega
    · obtain rfl : k = m := by omega
      have HE := hid (show r = T by rw [← HR.out, hT.out, List.take_of_length_le (by rw [HL.out]; exact Nat.le_refl _)])
      go_wp2
      go_ret
      rw [HE.out]
      exact ⟨rfl, rfl⟩

def fMatchingsWith (s : Int) (es : List (Int × Int)) (x : Int) : Int × Int := if IsG s es then (if 0 ≤ x ∧ x < es.length then ((cwE x.toNat (mtL s.toNat es) : Nat), 0) else (0, 2)) else (0, 1)





end Go.Proofs.Ytaafbdpdpndplaa
