/- Results that are graphs in memory of the call's own: what keeps them, the marks over them. -/
import Derived.Test.YtaafbdpdpndplaaLawsB
import Derived.Test.YtaafbdpdpndplaaRowsE

/- The laws' marks: numbers written over a result, and read again. -/
namespace Go.Proofs.Ytaafbdpdpndplaa
open Go.RowKit


end Go.Proofs.Ytaafbdpdpndplaa

namespace Go.Proofs.Ytaafbdpdpndplaa
open Go.RowKit

theorem drew_size (w : World) : w.drew.heap.size = w.heap.size := rfl

/-- A slice of edges in memory of the call's own, from block B on; or nil, of no edge. -/
def FreshE (B : Nat) (w : World) (q : Option Addr) (n cap : Nat) (es : List (Int × Int)) : Prop := w.ownsRow B 53 2 (.slice q n cap) n (edgeVals es) ∧ es.length = n

/-- A graph's two cells in a block. -/
def Box (w : World) (B : Nat) (s : Int) (q : Option Addr) (n cap : Nat) : Prop := w.cell? ⟨B, 0, none⟩ = some (.int .i64 s) ∧ w.cell? ⟨B, 1, none⟩ = some (.slice q n cap)

section
variable {B n cap : Nat} {w w' : World} {q : Option Addr} {es : List (Int × Int)} {s : Int}
theorem FreshE.form (h : FreshE B w q n cap es) : (q = none ∧ n = 0 ∧ cap = 0 ∧ es = []) ∨ ∃ g, q = some ⟨g, 0, none⟩ ∧ B ≤ g ∧ OwnE w g cap es := by
  rcases h.1.2 with ⟨e, h0⟩ | ⟨g, cap', cur, e, hb, _⟩
  · injection e with e1 e2 e3
    exact .inl ⟨e1, e2, e3, List.eq_nil_of_length_eq_zero (h.2.trans h0)⟩
  · injection e with e1 e2 e3
    subst e1
    subst e3
    exact .inr ⟨g, rfl, hb, (OwnE.of_row h.1 h.2).1⟩
theorem FreshE.sees (h : FreshE B w q n cap es) : SeesE w q es := by
  rcases h.form with ⟨_, _, _, h⟩ | ⟨g, rfl, _, h⟩
  · exact .inl h
  · exact h.sees
theorem FreshE.kept {row : Option Nat} (h : FreshE B w q n cap es) (hg : w.grownBy w' row) (hne : (Value.slice q n cap).ownBlock = none ∨ (Value.slice q n cap).ownBlock ≠ row) : FreshE B w' q n cap es := ⟨h.1.kept hg hne, h.2⟩
theorem below_grown (hb : Below w.heap.size w w') : w.grownBy w' none := ⟨hb.os, hb.tape, hb.output, hb.size, fun k hk _ => hb.block k hk⟩
theorem FreshE.on (h : FreshE B w q n cap es) (hb : Below w.heap.size w w') : FreshE B w' q n cap es :=
  h.kept (below_grown hb) (by cases hq : (Value.slice q n cap).ownBlock with
    | none => exact .inl rfl
    | some g => exact .inr (by simp))
theorem FreshE.own (h : FreshE B w q n cap es) {g : Nat} (hg : (Value.slice q n cap).ownBlock = some g) : B ≤ g ∧ g < w.heap.size := h.1.lt g hg
theorem FreshE.far (h : FreshE B w q n cap es) {a : Addr} (ha : a.block < B) (v : Value) : FreshE B (w.setCell a v) q n cap es := ⟨ownsRow_setCell_below h.1 ha v, h.2⟩
theorem FreshE.less {B' : Nat} (h : FreshE B w q n cap es) (hB : B' ≤ B) : FreshE B' w q n cap es := by
  refine ⟨⟨h.1.1, ?_⟩, h.2⟩
  rcases h.1.2 with hn | ⟨g, c, cur, hv, hb, r⟩
  · exact .inl hn
  · exact .inr ⟨g, c, cur, hv, Nat.le_trans hB hb, r⟩
theorem FreshE.nil (w : World) (B : Nat) : FreshE B w none 0 0 [] := ⟨World.ownsRow_nil _ _ _ _, rfl⟩
theorem FreshE.of_own {g : Nat} (h : OwnE w g cap es) (hl : es.length = n) (hb : B ≤ g) : FreshE B w (some ⟨g, 0, none⟩) n cap es := ⟨h.row hl hb, hl⟩
theorem Box.lt {b : Nat} (h : Box w b s q n cap) : b < w.heap.size := World.block_lt_of_cell? w _ h.1
theorem Box.on {b : Nat} (h : Box w b s q n cap) (hb : Below w.heap.size w w') : Box w' b s q n cap := ⟨((bcells hb).1 _ _ h.lt).trans h.1, ((bcells hb).1 _ _ h.lt).trans h.2⟩
theorem Box.kept {b : Nat} {row : Option Nat} (h : Box w b s q n cap) (hg : w.grownBy w' row) (hne : some b ≠ row) : Box w' b s q n cap := ⟨hg.cell h.1 hne, hg.cell h.2 hne⟩
theorem Box.new (w : World) (s : Int) (q : Option Addr) (n cap : Nat) (t : TypeId) : Box (w.alloc (.cells #[.int .i64 s, .slice q n cap] t)) w.heap.size s q n cap := ⟨by simp, by simp⟩
theorem FreshE.drew {B : Nat} {w : World} {q : Option Addr} {n cap : Nat} {es : List (Int × Int)} (h : FreshE B w q n cap es) : FreshE B w.drew q n cap es := h
theorem Box.drew {w : World} {b : Nat} {s : Int} {q : Option Addr} {n cap : Nat} (h : Box w b s q n cap) : Box w.drew b s q n cap := h
theorem on_alloc (w : World) (o : Obj) : Below w.heap.size w (w.alloc o) := (Below.refl _ _).alloc (Nat.le_refl _) o
end




end Go.Proofs.Ytaafbdpdpndplaa
