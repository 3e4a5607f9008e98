/- slices.Clone at edges. -/
import Derived.Test.YtfdlhdgmbjdhbaaRowsE
import Derived.Test.YtfdlhdgmbjdhbaaLawsA
import Derived.Deep.AppendLies
import Derived.Lib.SliceRun
namespace Go.Proofs.Ytfdlhdgmbjdhbaa
open Go.RowKit Go.Lib

theorem reads_vals {w : World} {b off : Nat} {es : List (Int × Int)} (h : ReadsE w b off es) (j : Nat) (u : Value) (hj : (edgeVals es)[j]? = some u) : w.cell? ⟨b, off + j, none⟩ = some u := by
  have hl : j < es.length * 2 := by
    have := (List.getElem?_eq_some_iff.1 hj).1
    rwa [edgeVals_length] at this
  have hi : j / 2 < es.length := by omega
  have h1 := edgeVals_at es (j / 2) hi
  have h2 := h (j / 2) hi
  rcases Nat.mod_two_eq_zero_or_one j with h0 | h0
  · have e : j = j / 2 * 2 := by omega
    rw [e, h1.1] at hj
    rw [e, ← Option.some.inj hj]
    exact h2.1
  · have e : j = j / 2 * 2 + 1 := by omega
    rw [e, h1.2] at hj
    rw [e, ← Option.some.inj hj]
    exact h2.2

theorem vals_one (es : List (Int × Int)) : ∀ u ∈ edgeVals es, u.oneCell' = true := fun u hu => by
  obtain ⟨e, _, he⟩ := List.mem_flatMap.1 hu
  exact one_pair e.1 e.2 u he

set_option maxHeartbeats 2000000 in
set_option maxRecDepth 100000 in
theorem cloneE_row (b off n c : Nat) (es : List (Int × Int)) (w : World) (hn : es.length = n) (hm : n ≤ 1048576) (hr : ReadsE w b off es) :
    Calls Try.prog 100 #[.slice (some ⟨b, off, none⟩) n c] w fun e w' => ∃ v', e = .returned v' ∧ w'.ownsRow w.heap.size 57 2 v' n (edgeVals es) ∧ v' ≠ .slice none 0 0 ∧ Below w.heap.size w w' := by
  obtain ⟨i0, hi, hz0, hz1, hz2⟩ := info_parts infoEdge
  have Hr := hid hr
  have Hn := hid hn
  clear hr hn
  have q27 : ∀ (w : World) (a : Option Addr) (n c n' c' : Nat), (binOp .eql 26 (.slice a n c) (.slice none n' c')).run Try.prog w = .ok (.bool a.isNone) w := fun w a n c n' c' => Lib.run_eql_slice_nil w _ _ a n c n' c' Try.underlying26
  have u27 : ∀ w, Sem.run Try.prog (underlying 26) w = .ok (TypeDesc.slice 57) w := run_underlying Try.underlying26
  go_enter Try.func100, Try.ntmps100
  go_wp2_with (at_builtin; refine wpList_append_own _ rfl _ _ 26 rfl w.heap.size 57 i0 (.agg #[.int .i64 0, .int .i64 0]) 2 16 Try.underlying26 hi hz0 hz1 hz2 rfl (by decide) _ _ _ rfl (World.ownsRow_made w #[] 0 (Nat.le_refl _) (Nat.zero_le _) rfl) ⟨b, off, none⟩ n c (edgeVals es) rfl ?qc1 ?qc2 ?qc3 ?qc4 ?qc5 ?qc6 ?_)
  case qc1 => rw [edgeVals_length, Hn.out]
  case qc2 =>
    intro j u hj
    rw [Addr.add_lit]
    exact Lib.cell?_alloc_some _ (reads_vals Hr.out j u hj)
  case qc3 => exact vals_one es
  case qc4 => unfold maxLen; omega
  case qc5 => omega
  case qc6 => simp
  intro v' w1 hown hgrow hnil
  go_wp2
  go_ret
  refine ⟨v', rfl, by simpa using hown, ?_, ?_⟩
  · exact hnil
  · exact ((Below.refl _ w).alloc (Nat.le_refl _) _).grown hgrow (by simp) (by intro k hk; simp [Value.ownBlock] at hk; omega)

theorem clone_own {w : World} {base n : Nat} {v : Value} {es : List (Int × Int)} (h : w.ownsRow base 57 2 v n (edgeVals es)) (hl : es.length = n) (h1 : 1 ≤ n) : ∃ g cap, v = .slice (some ⟨g, 0, none⟩) n cap ∧ OwnE w g cap es ∧ base ≤ g := by
  rcases h.2 with ⟨rfl, h0⟩ | ⟨g, cap, cur, rfl, _⟩
  · omega
  · exact ⟨g, cap, rfl, OwnE.of_row h hl⟩

end Go.Proofs.Ytfdlhdgmbjdhbaa
