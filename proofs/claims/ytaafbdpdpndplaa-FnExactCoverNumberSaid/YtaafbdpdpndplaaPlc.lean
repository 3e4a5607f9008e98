/- Rows of numbers that lie apart from each other, several in one block perhaps: what the laws do with them. -/
import Derived.Test.YtaafbdpdpndplaaLists
namespace Go.Proofs.Ytaafbdpdpndplaa
open Go.RowKit

/-- Some cells of one block were written, and no others. -/
structure WroteAt (w w' : World) (b o n : Nat) : Prop where
  grown : w.grownBy w' (some b)
  cells : ∀ c p, (c ≠ b ∨ p < o ∨ o + n ≤ p) → w'.cell? ⟨c, p, none⟩ = w.cell? ⟨c, p, none⟩
  frozen : ∀ c p, w'.frozen? ⟨c, p, none⟩ = w.frozen? ⟨c, p, none⟩

/-- Numbers in cells that may be written. -/
def FreeI (w : World) (b o : Nat) (xs : List Int) : Prop := ReadsI w b o xs ∧ ∀ j, j < xs.length → w.frozen? ⟨b, o + j, none⟩ = false

theorem WroteAt.refl (w : World) (b o n : Nat) : WroteAt w w b o n := ⟨World.grownBy.refl w _, fun _ _ _ => rfl, fun _ _ => rfl⟩
theorem WroteAt.set {w w' : World} {b o n p : Nat} (h : WroteAt w w' b o n) (h1 : o ≤ p) (h2 : p < o + n) (v : Value) : WroteAt w (w'.setCell ⟨b, p, none⟩ v) b o n :=
  ⟨gset h.grown p v, fun c r hr => (World.cell?_setCell_other _ _ _ _ (fun e => by simp only [Addr.mk.injEq, and_true] at e; omega)).trans (h.cells c r hr), fun c r => (World.frozen?_setCell ..).trans (h.frozen c r)⟩


/-- Where the rows lie: apart from each other, from block B on. -/
def apartP (Ls : List (List Int)) (pl : Nat → Nat × Nat) : Prop := ∀ i k, i < Ls.length → k < Ls.length → i ≠ k → (pl i).1 ≠ (pl k).1 ∨ (pl i).2 + (lI Ls i).length ≤ (pl k).2 ∨ (pl k).2 + (lI Ls k).length ≤ (pl i).2
structure OwnP (B : Nat) (w : World) (g : Nat) (Ls : List (List Int)) (pl : Nat → Nat × Nat) : Prop where
  le : B ≤ g
  cell : ∀ i, i < Ls.length → ∃ c, w.cell? ⟨g, i, none⟩ = some (.slice (some ⟨(pl i).1, (pl i).2, none⟩) (lI Ls i).length c)
  row : ∀ i, i < Ls.length → B ≤ (pl i).1 ∧ (pl i).1 ≠ g ∧ (pl i).1 < w.heap.size ∧ FreeI w (pl i).1 (pl i).2 (lI Ls i)
  apart : apartP Ls pl
def FreshP (B : Nat) (w : World) (q : Option Addr) (n : Nat) (Ls : List (List Int)) : Prop :=
  Ls.length = n ∧ (n = 0 ∨ ∃ g pl, q = some ⟨g, 0, none⟩ ∧ g < w.heap.size ∧ OwnP B w g Ls pl)

section
variable {w w' : World} {g n B : Nat} {Ls : List (List Int)} {q : Option Addr} {pl : Nat → Nat × Nat}
theorem OwnP.same (h : OwnP B w g Ls pl) (hg : g < w.heap.size) (hz : w.heap.size ≤ w'.heap.size) (hk : ∀ k, B ≤ k → k < w.heap.size → w'.heap[k]? = w.heap[k]?) : OwnP B w' g Ls pl := by
  refine ⟨h.le, fun i hi => ?_, fun i hi => ?_, h.apart⟩
  · obtain ⟨c, h1⟩ := h.cell i hi
    exact ⟨c, (World.cell?_of_block (w := w) (a := ⟨g, i, none⟩) (hk g h.le hg)).trans h1⟩
  · obtain ⟨h1, h2, h3, h4, h5⟩ := h.row i hi
    refine ⟨h1, h2, by omega, h4.keep (hk _ h1 h3), fun j hj => ?_⟩
    exact (World.frozen?_of_block (w := w) (a := ⟨(pl i).1, (pl i).2 + j, none⟩) (hk _ h1 h3)).trans (h5 j hj)
theorem FreshP.on (h : FreshP B w q n Ls) (hb : Below w.heap.size w w') : FreshP B w' q n Ls := by
  rcases h with ⟨hl, h | ⟨g, pl, rfl, hg, h⟩⟩
  · exact ⟨hl, .inl h⟩
  · exact ⟨hl, .inr ⟨g, pl, rfl, by have := hb.size; omega, h.same hg hb.size (fun k _ hk => hb.block k hk)⟩⟩
theorem FreshP.grown (h : FreshP B w q n Ls) {row : Option Nat} (hg' : w.grownBy w' row) (hr : ∀ r, row = some r → r < B) : FreshP B w' q n Ls := by
  rcases h with ⟨hl, h | ⟨g, pl, rfl, hg, h⟩⟩
  · exact ⟨hl, .inl h⟩
  · exact ⟨hl, .inr ⟨g, pl, rfl, by have := hg'.size; omega, h.same hg hg'.size (fun k hB hk => hg'.block k hk (fun e => by have := hr k e.symm; omega))⟩⟩
theorem FreshP.sees (h : FreshP B w q n Ls) : SeesL w q Ls := by
  rcases h with ⟨hl, h | ⟨g, pl, rfl, hg, h⟩⟩
  · exact .inl (List.eq_nil_of_length_eq_zero (hl.trans h))
  · refine .inr ⟨g, 0, rfl, fun i hi => ?_⟩
    obtain ⟨c, h1⟩ := h.cell i hi
    exact ⟨_, c, by rw [Nat.zero_add]; exact h1, .inr ⟨_, _, rfl, (h.row i hi).2.2.2.1⟩⟩
theorem FreshP.less {B' : Nat} (h : FreshP B w q n Ls) (hB : B' ≤ B) : FreshP B' w q n Ls := by
  rcases h with ⟨hl, h | ⟨g, pl, rfl, hg, h⟩⟩
  · exact ⟨hl, .inl h⟩
  · exact ⟨hl, .inr ⟨g, pl, rfl, hg, Nat.le_trans hB h.le, h.cell, fun i hi => ⟨Nat.le_trans hB (h.row i hi).1, (h.row i hi).2⟩, h.apart⟩⟩
theorem OwnP.step (h : OwnP B w g Ls pl) {j : Nat} {ys : List Int} (hj : j < Ls.length) (hw : WroteAt w w' (pl j).1 (pl j).2 (lI Ls j).length) (hl : ys.length = (lI Ls j).length) (hr : ReadsI w' (pl j).1 (pl j).2 ys) : OwnP B w' g (Ls.set j ys) pl := by
  have hlen : ∀ i, (lI (Ls.set j ys) i).length = (lI Ls i).length := fun i => by
    rw [lI_set hj]
    by_cases e : i = j
    · subst e; rw [if_pos rfl, hl]
    · rw [if_neg e]
  refine ⟨h.le, fun i hi => ?_, fun i hi => ?_, fun i k hi hk hik => ?_⟩
  · rw [List.length_set] at hi
    obtain ⟨c, h1⟩ := h.cell i hi
    rw [hlen]
    exact ⟨c, (hw.cells g i (.inl (Ne.symm (h.row j hj).2.1))).trans h1⟩
  · rw [List.length_set] at hi
    obtain ⟨h1, h2, h3, h4, h5⟩ := h.row i hi
    refine ⟨h1, h2, by have := hw.grown.size; omega, ?_⟩
    by_cases e : i = j
    · subst e
      rw [lI_set hj, if_pos rfl]
      exact ⟨hr, fun t ht => (hw.frozen _ _).trans (h5 t (by omega))⟩
    · rw [lI_set hj, if_neg e]
      refine ⟨fun t ht => (hw.cells _ _ ?_).trans (h4 t ht), fun t ht => (hw.frozen _ _).trans (h5 t ht)⟩
      rcases h.apart i j hi hj e with h6 | h6 | h6
      · exact .inl h6
      · exact .inr (.inl (by omega))
      · exact .inr (.inr (by omega))
  · rw [List.length_set] at hi hk
    rw [hlen, hlen]
    exact h.apart i k hi hk hik
end



end Go.Proofs.Ytaafbdpdpndplaa
