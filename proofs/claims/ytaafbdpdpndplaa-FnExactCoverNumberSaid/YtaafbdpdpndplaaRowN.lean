/- slices.Clone at a row of numbers; boxes beside a range over a function. -/
import Derived.Test.YtaafbdpdpndplaaMoves
import Derived.Test.YtaafbdpdpndplaaLawsD
import Derived.Test.YtaafbdpdpndplaaOwnMore
import Derived.RangeFuncBox
import Derived.RangeFuncNested
import Derived.Shelf.Abstract
import Derived.WalkKit
namespace Go.Proofs.Ytaafbdpdpndplaa
open Go.RowKit Go.Shelf

attribute [local go_sem] Oper.semAt_some

theorem boxedN_at (w : World) (g : Nat) (t : TypeId) (v : Value) (hg : g = w.heap.size) : Boxed (w.alloc (.cells #[v] t)) g t v := by subst hg; exact Boxed.new w t v
theorem boxN_moved {X Y : World} {B : Nat} {p : Nat → Prop} {t : TypeId} {v : Value} (h : Boxed X B t v) (hm : Kept p X Y) (hp : p B) : Boxed Y B t v := (hm.same B hp h.lt).trans h
theorem boxN_on {w w' : World} {B : Nat} {t : TypeId} {v : Value} (h : Boxed w B t v) (hb : Below w.heap.size w w') : Boxed w' B t v := (hb.block B h.lt).trans h
theorem fresh_some {w : World} {B n cap : Nat} {q : Option Addr} {xs : List Int} (h : FreshI B w q n cap xs) (hn : 0 < n) : ∃ g, q = some ⟨g, 0, none⟩ ∧ B ≤ g ∧ OwnI w g cap xs := by
  rcases h.form with ⟨_, h, _⟩ | h
  · omega
  · exact h

set_option maxHeartbeats 2000000 in
set_option maxRecDepth 100000 in
theorem cloneN_row (b off n c : Nat) (xs : List Int) (w : World) (hn : xs.length = n) (hm : n ≤ 1048576) (hr : ReadsI w b off xs) :
    Calls Try.prog 27 #[.slice (some ⟨b, off, none⟩) n c] w fun e w' => ∃ q cap, e = .returned (.slice q n cap) ∧ FreshI w.heap.size w' q n cap xs ∧ Below w.heap.size w w' := by
  obtain ⟨i0, hi, hz0, hz1, hz2⟩ := info_parts infoInt
  have Hr := hid hr
  have Hn := hid hn
  clear hr hn
  have q27 : ∀ (w : World) (a : Option Addr) (n c n' c' : Nat), (binOp .eql 46 (.slice a n c) (.slice none n' c')).run Try.prog w = .ok (.bool a.isNone) w := fun w a n c n' c' => Lib.run_eql_slice_nil w _ _ a n c n' c' Try.underlying46
  have u27 : ∀ w, Sem.run Try.prog (underlying 46) w = .ok (TypeDesc.slice 2) w := run_underlying Try.underlying46
  go_enter Try.func27, Try.ntmps27
  go_wp2_with (at_builtin; refine wpList_append_own _ rfl _ _ 46 rfl w.heap.size 2 i0 (.int .i64 0) 1 8 Try.underlying46 hi hz0 hz1 hz2 rfl (by decide) _ _ _ rfl (World.ownsRow_made w #[] 0 (Nat.le_refl _) (Nat.zero_le _) rfl) ⟨b, off, none⟩ n c (intVals xs) rfl ?qc1 ?qc2 ?qc3 ?qc4 ?qc5 ?qc6 ?_)
  case qc1 => rw [show (intVals xs).length = xs.length by simp [intVals], Hn.out, Nat.mul_one]
  case qc2 =>
    intro j u hj
    rw [Addr.add_lit]
    have hjl : j < xs.length := by
      have := (List.getElem?_eq_some_iff.1 hj).1
      simpa [intVals] using this
    have hu : u = .int .i64 (eI xs j) := by
      unfold intVals at hj
      rw [List.getElem?_map, List.getElem?_eq_getElem hjl] at hj
      rw [eI_lt hjl]
      exact (Option.some.inj hj).symm
    rw [hu]
    exact Lib.cell?_alloc_some _ (Hr.out j hjl)
  case qc3 =>
    intro u hu
    obtain ⟨x, _, rfl⟩ := List.mem_map.1 hu
    rfl
  case qc4 => unfold maxLen; omega
  case qc5 => omega
  case qc6 => simp
  intro v' w1 hown hgrow hnil
  go_wp2
  go_ret
  have hB : Below w.heap.size w w1 := ((Below.refl _ w).alloc (Nat.le_refl _) _).grown hgrow (by simp) (by intro k hk; simp [Value.ownBlock] at hk; omega)
  have ho : w1.ownsRow w.heap.size 2 1 v' n (intVals xs) := by simpa using hown
  rcases ho.2 with ⟨rfl, h0⟩ | ⟨g, cap, cur, rfl, _⟩
  · exact ⟨none, 0, by rw [h0]; rfl, ⟨by rw [h0] at ho ⊢; exact ho, by rw [Hn.out]⟩, hB⟩
  · exact ⟨_, _, rfl, ⟨ho, by rw [Hn.out]⟩, hB⟩

end Go.Proofs.Ytaafbdpdpndplaa
