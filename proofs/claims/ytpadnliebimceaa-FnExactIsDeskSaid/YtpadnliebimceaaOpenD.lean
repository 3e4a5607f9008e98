/- A desk, opened: a graph and two lists of numbers. -/
import Derived.Test.YtpadnliebimceaaOpen
import Derived.Deep.Strs
namespace Go.Proofs.Ytpadnliebimceaa
open Go.RowKit Go.Joins Go.ChangeShapes Go.WideShapes

section
variable {H : Type} {enc : TypeId × Value → H} {w : World} {base : Nat} {spare : Nat → Bool} {held : Bool}

theorem cells_graphL : Try.prog.cellsOf 34 = 2 := by kernel_rfl
theorem cells_listL : Try.prog.cellsOf 25 = 1 := by kernel_rfl
theorem cells_edgesL : Try.prog.cellsOf 32 = 1 := by kernel_rfl

set_option maxRecDepth 100000 in
theorem open_cellD {fuel : Nat} {v : Value} {x : DataW H × List MemPlace} (hf : DataW.trod enc Try.prog w base spare held fuel 25 [v] = some x) :
    ∃ q n c xs, v = .slice q n c ∧ xs.length = n ∧ n ≤ 9223372036854775807 ∧ SeesI w q xs := by
  rcases Go.ChangeShapes.open_ints Try.underlying25 Try.underlying2 cells_int hf with ⟨hcs, _⟩ | ⟨a, len, cap, zs, hcs, _, hl, hm, hz, _, hcell, _⟩
  · simp at hcs
    exact ⟨none, 0, 0, [], hcs, rfl, by omega, .inl rfl⟩
  · simp at hcs
    have hzl : len ≤ zs.length := by rw [hz]; split <;> omega
    refine ⟨some a, len, cap, zs.take len, hcs, by rw [List.length_take]; omega, by unfold maxLen at hm; omega, ?_⟩
    rcases Nat.eq_zero_or_pos len with h0 | h0
    · subst h0
      exact .inl rfl
    · obtain ⟨bb, off, spot⟩ := a
      have hspot : spot = none := by simpa [Addr.add] using World.cell?_spot (hcell 0 (by omega))
      subst hspot
      refine .inr ⟨bb, off, rfl, fun i hi => ?_⟩
      rw [List.length_take] at hi
      have h1 := hcell i (by omega)
      rw [Go.WideShapes.add_plain] at h1
      rw [h1, eI]
      congr 2
      rw [List.getD_eq_getElem?_getD, List.getD_eq_getElem?_getD, List.getElem?_take, if_pos (by omega)]

set_option maxRecDepth 100000 in
theorem open_desk {r : Reach} {b0 : Nat} {v : Value} {d : DataW H} {p : List MemPlace} (hv : Value.okWide Try.prog w r b0 36 v) (h : DataW.Trod enc Try.prog w base spare held 36 v d p) :
    ∃ s p0 n0 c0 es p1 n1 c1 xs p2 n2 c2 ys, v = .agg #[.int .i64 s, .slice p0 n0 c0, .slice p1 n1 c1, .slice p2 n2 c2] ∧ (es.length = n0 ∧ n0 ≤ 9223372036854775807 ∧ SeesE w p0 es) ∧ (xs.length = n1 ∧ n1 ≤ 9223372036854775807 ∧ SeesI w p1 xs) ∧ ys.length = n2 ∧ n2 ≤ 9223372036854775807 ∧ SeesI w p2 ys := by
  obtain ⟨cs, rfl, hsz⟩ := okWide_struct Try.underlying36 hv
  obtain ⟨q0, q1, q2, q3, rfl⟩ := Go.Joins.array4 (hsz.trans (by kernel_rfl))
  obtain ⟨fuel, hf⟩ := h
  obtain ⟨y0, y1, y2, n, _, _, h0, h1, h2⟩ := Go.Deep.trod_struct3 Try.underlying36 hf
  rw [cells_graphL] at h0
  rw [cells_listL] at h1 h2
  replace h0 : DataW.trod enc Try.prog w base spare held n 34 [q0, q1] = some y0 := h0
  replace h1 : DataW.trod enc Try.prog w base spare held n 25 [q2] = some y1 := h1
  replace h2 : DataW.trod enc Try.prog w base spare held n 25 [q3] = some y2 := h2
  obtain ⟨z0, z1, m, _, _, k0, k1⟩ := trod_struct2 Try.underlying34 h0
  rw [cells_int] at k0
  rw [cells_edgesL] at k1
  replace k0 : DataW.trod enc Try.prog w base spare held m 2 [q0] = some z0 := k0
  replace k1 : DataW.trod enc Try.prog w base spare held m 32 [q1] = some z1 := k1
  obtain ⟨s, es, _⟩ := DataW.trod_int Try.underlying2 k0
  simp at es
  subst es
  obtain ⟨p0, n0, c0, es, rfl, hl, hn, hs⟩ := open_edges k1
  obtain ⟨p1, n1, c1, xs, rfl, hl1, hn1, hs1⟩ := open_cellD h1
  obtain ⟨p2, n2, c2, ys, rfl, hl2, hn2, hs2⟩ := open_cellD h2
  exact ⟨s, p0, n0, c0, es, p1, n1, c1, xs, p2, n2, c2, ys, rfl, ⟨hl, hn, hs⟩, ⟨hl1, hn1, hs1⟩, hl2, hn2, hs2⟩
end

end Go.Proofs.Ytpadnliebimceaa
