/- A list of rows that grows from call to call, in the model. -/
import Derived.Test.YtaafbdpdpndplaaRowsM
namespace Go.Proofs.Ytaafbdpdpndplaa
open Go.RowKit

/-- A slice's row, or new memory. -/
def SameOr (q q' : Option Addr) (H : Nat) : Prop := q' = q ∨ ∃ g, q' = some ⟨g, 0, none⟩ ∧ H ≤ g
def rowOf (q : Option Addr) : Option Nat := q.map (·.block)
theorem rowOf_own (q : Option Addr) (n c : Nat) : (Value.slice q n c).ownBlock = rowOf q := by cases q <;> rfl
theorem grown_next {w w1 w2 : World} {q q1 : Option Addr} (h : w.grownBy w1 (rowOf q)) (hs : SameOr q q1 w.heap.size) (h2 : w1.grownBy w2 (rowOf q1)) : w.grownBy w2 (rowOf q) :=
  ⟨h2.os.trans h.os, h2.tape.trans h.tape, h2.output.trans h.output, Nat.le_trans h.size h2.size, fun i hi hne => (h2.block i (Nat.lt_of_lt_of_le hi h.size) (by
    rcases hs with rfl | ⟨g, rfl, hg⟩
    · exact hne
    · intro e
      have : i = g := Option.some.inj e
      omega)).trans (h.block i hi hne)⟩
theorem SameOr.next {q q1 q2 : Option Addr} {H H2 : Nat} (h : SameOr q q1 H) (h2 : SameOr q1 q2 H2) (hh : H ≤ H2) : SameOr q q2 H := by
  rcases h2 with rfl | ⟨g, e, hg⟩
  · exact h
  · exact .inr ⟨g, e, by omega⟩
theorem grown_of {w w1 : World} (h : Below w.heap.size w w1) (row : Option Nat) : w.grownBy w1 row := ⟨h.os, h.tape, h.output, h.size, fun i hi _ => h.block i hi⟩
theorem grown_row {w w1 w2 : World} {row : Option Nat} (h : Below w.heap.size w w1) (h2 : w1.grownBy w2 row) : w.grownBy w2 row := (grown_of h row).trans h2
/-- A row of numbers is none of the rows of slices. -/
theorem own_other {w : World} {B n g cap c : Nat} {q : Option Addr} {xs : List Value} {ys : List Int} (h : w.ownsRow B 46 1 (.slice q n c) n xs) (ho : OwnI w g cap ys) : some g ≠ rowOf q := by
  rw [← rowOf_own q n c]
  exact row_nei h ho
theorem OwnI.grownR {w w' : World} {B n g cap c : Nat} {q : Option Addr} {xs : List Value} {ys : List Int} (ho : OwnI w g cap ys) (h : w.ownsRow B 46 1 (.slice q n c) n xs) (hg : w.grownBy w' (rowOf q)) : OwnI w' g cap ys := ho.keep (hg.block g ho.lt (own_other h ho))
theorem ReadsE.grownR {w w' : World} {B n c b off : Nat} {q : Option Addr} {xs : List Value} {es : List (Int × Int)} (hr : ReadsE w b off es) (hb : b < B) (hl : b < w.heap.size) (h : w.ownsRow B 46 1 (.slice q n c) n xs) (hg : w.grownBy w' (rowOf q)) : ReadsE w' b off es :=
  hr.keep (hg.block b hl (fun e => by
    have := h.lt b (by rw [rowOf_own]; exact e.symm)
    omega))
/-- What a function leaves that puts rows behind those of a list. -/
def ListPost (B : Nat) (Ls : List (List Int)) (q : Option Addr) (w : World) (e' : Ending) (w' : World) : Prop := ∃ q' cap' vals', e' = .returned (.slice q' Ls.length cap') ∧ RowsM w' B Ls cap' q' vals' ∧ w.grownBy w' (rowOf q) ∧ SameOr q q' w.heap.size

end Go.Proofs.Ytaafbdpdpndplaa
