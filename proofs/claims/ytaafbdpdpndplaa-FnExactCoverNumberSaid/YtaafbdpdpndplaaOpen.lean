/- The laws' arguments, opened: graphs and lists of edges as lists of pairs. -/
import Derived.Test.YtaafbdpdpndplaaRows
import Derived.Test.YtaafbdpdpndplaaGraphs
import Derived.ProofKit
import Derived.OpenShut
import Derived.Lib.SmallJoins
import Derived.Deep.Slices
import Derived.ChangeSlices
namespace Go.Proofs.Ytaafbdpdpndplaa
open Go.RowKit Go.Joins Go.ChangeShapes Go.WideShapes

theorem own : ownKnob Try.prog.godebug = none := by kernel_rfl
theorem laidOut : laidOutB Try.prog = true := by kernel_rfl
theorem cells_pair : Try.prog.cellsOf 52 = 2 := by kernel_rfl
theorem cells_int : Try.prog.cellsOf 2 = 1 := by kernel_rfl

section
variable {H : Type} {enc : TypeId × Value → H} {w : World} {base : Nat} {spare : Nat → Bool} {held : Bool}

set_option maxRecDepth 100000 in
/-- One pair, read. -/
theorem open_pair {fuel : Nat} {cs : List Value} {x : DataW H × List MemPlace} (h : DataW.trod enc Try.prog w base spare held fuel 52 cs = some x) :
    ∃ a b : Int, cs = [.int .i64 a, .int .i64 b] := by
  obtain ⟨xs, m, _, _, hl, hlen, hi⟩ := DataW.trod_array Try.underlying52 h
  rw [cells_pair] at hl
  match cs, hl with
  | [c0, c1], _ =>
    have h0 := hi 0 (by omega)
    have h1 := hi 1 (by omega)
    rw [cells_int] at h0 h1
    have e0 : xs[0]? = some (xs[0]'(by omega)) := List.getElem?_eq_getElem (by omega)
    have e1 : xs[1]? = some (xs[1]'(by omega)) := List.getElem?_eq_getElem (by omega)
    rw [e0] at h0
    rw [e1] at h1
    obtain ⟨a, ea, _⟩ := DataW.trod_int Try.underlying2 (show DataW.trod enc Try.prog w base spare held m 2 [c0] = _ from h0)
    obtain ⟨b, eb, _⟩ := DataW.trod_int Try.underlying2 (show DataW.trod enc Try.prog w base spare held m 2 [c1] = _ from h1)
    simp at ea eb
    subst ea
    subst eb
    exact ⟨a, b, rfl⟩

set_option maxRecDepth 100000 in
/-- A list of pairs, read: nil, empty or not. -/
theorem open_edges {fuel : Nat} {v : Value} {x : DataW H × List MemPlace} (h : DataW.trod enc Try.prog w base spare held fuel 22 [v] = some x) :
    ∃ p n c es, v = .slice p n c ∧ es.length = n ∧ n ≤ 9223372036854775807 ∧ SeesE w p es := by
  rcases Deep.open_slice Try.underlying22 h with ⟨hcs, _⟩ | ⟨a, len, cap, m, k, D, Pl, hcs, _, hl, hm, hmm, _, hi⟩
  · simp at hcs
    exact ⟨none, 0, 0, [], hcs, rfl, by omega, .inl rfl⟩
  · simp at hcs
    have hlm : len ≤ m := by rw [hmm]; split <;> omega
    have key : ∀ i, i < len → ∃ e : Int × Int, w.cell? (a.add (i * 2)) = some (.int .i64 e.1) ∧ w.cell? ((a.add (i * 2)).add 1) = some (.int .i64 e.2) := fun i hil => by
      obtain ⟨cs', hc, ht⟩ := hi i (by omega)
      rw [cells_pair] at hc
      obtain ⟨a', b', rfl⟩ := open_pair ht
      obtain ⟨_, _, hat⟩ := World.cells?_some hc
      have h0 := hat 0 (by omega)
      have h1 := hat 1 (by omega)
      exact ⟨(a', b'), by simpa [Addr.add] using h0, by simpa using h1⟩
    have hpick : ∃ es : List (Int × Int), es.length = len ∧ ∀ i (h : i < es.length), w.cell? (a.add (i * 2)) = some (.int .i64 es[i].1) ∧ w.cell? ((a.add (i * 2)).add 1) = some (.int .i64 es[i].2) := by
      refine ⟨(List.range len).pmap (fun i hi => Classical.choose (key i hi)) (fun i hi => by simpa using hi), by simp, fun i h => ?_⟩
      simp only [List.getElem_pmap, List.getElem_range]
      exact Classical.choose_spec (key i (by simpa using h))
    obtain ⟨es, hes, hcell⟩ := hpick
    refine ⟨some a, len, cap, es, hcs, hes, by unfold maxLen at hm; omega, ?_⟩
    rcases es with _ | ⟨e, es⟩
    · exact .inl rfl
    · obtain ⟨b, off, spot⟩ := a
      have hspot : spot = none := by simpa [Addr.add] using World.cell?_spot (hcell 0 (by simp)).1
      subst hspot
      refine .inr ⟨b, off, rfl, fun i hi => ?_⟩
      obtain ⟨h0, h1⟩ := hcell i hi
      rw [Go.WideShapes.add_plain] at h0
      rw [Go.WideShapes.add_plain, Go.WideShapes.add_plain] at h1
      rw [eA_lt hi, eB_lt hi]
      exact ⟨h0, h1⟩

set_option maxRecDepth 100000 in
/-- A graph, read. -/
theorem open_graph {r : Reach} {b0 : Nat} {v : Value} {d : DataW H} {p : List MemPlace} (hv : Value.okWide Try.prog w r b0 24 v) (h : DataW.Trod enc Try.prog w base spare held 24 v d p) :
    ∃ s q n c es, v = .agg #[.int .i64 s, .slice q n c] ∧ es.length = n ∧ n ≤ 9223372036854775807 ∧ SeesE w q es := by
  obtain ⟨v0, v1, y0, y1, m, rfl, _, _, h0, h1⟩ := open_agg2 Try.underlying24 (by kernel_rfl) (by kernel_rfl) hv h
  obtain ⟨s, es, _⟩ := DataW.trod_int Try.underlying2 h0
  simp at es
  subst es
  obtain ⟨q, n, c, es, rfl, hl, hn, hs⟩ := open_edges h1
  exact ⟨s, q, n, c, es, rfl, hl, hn, hs⟩

set_option maxRecDepth 100000 in
/-- A list of numbers, read: nil, empty or not. -/
theorem open_list {r : Reach} {b0 : Nat} {v : Value} {d : DataW H} {p : List MemPlace} (hv : Value.okWide Try.prog w r b0 46 v) (h : DataW.Trod enc Try.prog w base spare held 46 v d p) :
    ∃ q n c xs, v = .slice q n c ∧ xs.length = n ∧ n ≤ 9223372036854775807 ∧ SeesI w q xs := by
  obtain ⟨f, hf⟩ := h
  obtain ⟨b, m, e, hb⟩ := okWide_slice Try.underlying46 hv
  subst hb
  rcases Go.ChangeShapes.open_ints Try.underlying46 Try.underlying2 cells_int hf with ⟨hcs, _⟩ | ⟨a, len, cap, zs, hcs, _, hl, hm, hz, _, hcell, _⟩
  · simp [Value.cells] at hcs
    obtain ⟨rfl, rfl, rfl⟩ := hcs
    exact ⟨none, 0, 0, [], rfl, rfl, by omega, .inl rfl⟩
  · simp [Value.cells] at hcs
    obtain ⟨rfl, rfl, rfl⟩ := hcs
    have hzl : m ≤ zs.length := by rw [hz]; split <;> omega
    refine ⟨some a, m, e, zs.take m, rfl, by rw [List.length_take]; omega, by unfold maxLen at hm; omega, ?_⟩
    rcases Nat.eq_zero_or_pos m with h0 | h0
    · subst h0
      exact .inl rfl
    · obtain ⟨bb, off, spot⟩ := a
      have hspot : spot = none := by simpa [Addr.add] using World.cell?_spot (hcell 0 (by omega))
      subst hspot
      refine .inr ⟨bb, off, rfl, fun i hi => ?_⟩
      rw [List.length_take] at hi
      have h1 := hcell i (by omega)
      rw [Go.WideShapes.add_plain] at h1
      rw [h1, eI]
      congr 2
      rw [List.getD_eq_getElem?_getD, List.getD_eq_getElem?_getD, List.getElem?_take, if_pos (by omega)]
end

end Go.Proofs.Ytaafbdpdpndplaa
