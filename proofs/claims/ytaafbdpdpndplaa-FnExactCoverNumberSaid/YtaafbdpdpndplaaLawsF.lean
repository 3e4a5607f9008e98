/- The laws' helpers on lists of numbers, and what their walks carry from call to call. -/
import Derived.Test.YtaafbdpdpndplaaLawsD
import Derived.Test.YtaafbdpdpndplaaInts
namespace Go.Proofs.Ytaafbdpdpndplaa
open Go.RowKit

theorem FreshI.drew {B : Nat} {w : World} {q : Option Addr} {n cap : Nat} {es : List Int} (h : FreshI B w q n cap es) : FreshI B w.drew q n cap es := h

theorem sep_own {u v : Value} {a b c d : Nat} (hv : ∀ g, v.ownBlock = some g → a ≤ g ∧ g < b) (hu : ∀ g, u.ownBlock = some g → c ≤ g ∧ g < d) (h : b ≤ c ∨ d ≤ a) : u.ownBlock = none ∨ u.ownBlock ≠ v.ownBlock := by
  cases hq : u.ownBlock with
  | none => exact .inl rfl
  | some g => exact .inr (fun e => by have := hu g hq; have := hv g e.symm; omega)
theorem sep_box {v : Value} {a b x : Nat} (hv : ∀ g, v.ownBlock = some g → a ≤ g ∧ g < b) (h : x < a ∨ b ≤ x) : some x ≠ v.ownBlock := fun e => by
  have := hv x e.symm
  omega

theorem box_two {w : World} {X : Nat} {u v : Value} {s : Int} {q : Option Addr} {n cap : Nat} (h0 : w.cell? ⟨X, 0, none⟩ = some u) (h1 : w.cell? ⟨X, 1, none⟩ = some v) :
    Box ((w.setCell ⟨X, 0, none⟩ (.int .i64 s)).setCell ⟨X, 1, none⟩ (.slice q n cap)) X s q n cap := by
  refine ⟨?_, ?_⟩
  · rw [World.cell?_setCell_other _ _ _ _ (by simp)]
    exact World.cell?_setCell_same' _ _ _ (by rw [h0]; rfl)
  · refine World.cell?_setCell_same' _ _ _ ?_
    rw [World.cell?_setCell_other _ _ _ _ (by simp), h1]
    rfl

theorem eqGraph_self (t : Int) (p q : Option Addr) (n c d : Nat) (xs : List (Int × Int)) (w : World) (hx : xs.length = n) (hn : n ≤ 9223372036854775807) (hp : SeesE w p xs) (hq : SeesE w q xs) :
    Calls Try.prog 8 #[.agg #[.int .i64 t, .slice p n c], .agg #[.int .i64 t, .slice q n d]] w fun e w' => e = .returned (.bool true) ∧ Below w.heap.size w w' :=
  (eqGraph_any t t p q n n c d xs xs w hx hx hn hn hp hq).mono fun e w' ⟨he, hb⟩ => ⟨by rw [he]; simp, hb⟩











end Go.Proofs.Ytaafbdpdpndplaa
