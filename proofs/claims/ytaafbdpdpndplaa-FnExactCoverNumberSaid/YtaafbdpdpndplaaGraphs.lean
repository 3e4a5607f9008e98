/- Graphs as plain lists of edges: sizes, ends, degrees, order. No program is named here. -/
import Derived.Test.YtaafbdpdpndplaaPlain
namespace Go.Proofs.Ytaafbdpdpndplaa
open Go.RowKit

/-- An edge that may stand in a graph of n vertices. -/
def okEdge (n x y : Int) : Prop := 0 ≤ x ∧ x < n ∧ 0 ≤ y ∧ y < n ∧ x ≠ y
instance (n x y : Int) : Decidable (okEdge n x y) := by unfold okEdge; infer_instance

def okSize (n : Int) (m : Nat) : Prop := 2 ≤ n ∧ n ≤ 20 ∧ n % 2 = 0 ∧ (m : Int) = 3 * n / 2
instance (n : Int) (m : Nat) : Decidable (okSize n m) := by unfold okSize; infer_instance
def Ends (n : Int) (es : List (Int × Int)) : Prop := okSize n es.length ∧ ∀ i, i < es.length → okEdge n (eA es i) (eB es i)
instance (n : Int) (es : List (Int × Int)) : Decidable (Ends n es) := by unfold Ends; infer_instance

/-- On how many edges a vertex is. -/
def deg (es : List (Int × Int)) (v : Nat) : Int := (es.map fun e => (if e.1 = (v : Int) then (1 : Int) else 0) + (if e.2 = (v : Int) then 1 else 0)).sum
def Cubic (n : Nat) (es : List (Int × Int)) : Prop := ∀ v, v < n → deg es v = 3
instance (n : Nat) (es : List (Int × Int)) : Decidable (Cubic n es) := by unfold Cubic; infer_instance

theorem deg_take {es : List (Int × Int)} {k : Nat} (hk : k < es.length) (v : Nat) :
    deg (es.take (k + 1)) v = deg (es.take k) v + ((if eA es k = v then 1 else 0) + (if eB es k = v then 1 else 0)) := by
  unfold deg
  rw [List.take_add_one, pair_at hk]
  simp

theorem deg_le (es : List (Int × Int)) (v : Nat) : 0 ≤ deg es v ∧ deg es v ≤ 2 * es.length := by
  induction es with
  | nil => simp [deg]
  | cons e es ih =>
    have h : deg (e :: es) v = (if e.1 = (v : Int) then (1 : Int) else 0) + (if e.2 = (v : Int) then 1 else 0) + deg es v := by simp [deg]
    rw [h, List.length_cons]
    split <;> split <;> omega

/-- The counts after one more edge. -/
theorem count_step {es : List (Int × Int)} {cs : List Int} {N k X Y : Nat} (hk : k < es.length) (hc : cs.length = N) (hX : eA es k = X) (hY : eB es k = Y) (hXY : X ≠ Y) (hXN : X < N) (hYN : Y < N)
    (h : ∀ v, v < N → eI cs v = deg (es.take k) v) : ∀ v, v < N → eI ((cs.set X (eI cs X + 1)).set Y (eI cs Y + 1)) v = deg (es.take (k + 1)) v := fun v hv => by
  rw [deg_take hk, hX, hY, eI_set (by rw [List.length_set]; omega), eI_set (by omega)]
  by_cases e1 : v = Y
  · subst e1
    rw [if_pos rfl, h v hv]
    have : ¬ ((X : Int) = v) := by omega
    simp [this]
  · rw [if_neg e1]
    by_cases e2 : v = X
    · subst e2
      rw [if_pos rfl, h v hv]
      have : ¬ ((Y : Int) = v) := by omega
      simp [this]
    · rw [if_neg e2, h v hv]
      have h1 : ¬ ((X : Int) = v) := by omega
      have h2 : ¬ ((Y : Int) = v) := by omega
      simp [h1, h2]

/-- One edge comes before another. -/
def ltE (a b c d : Int) : Prop := a < c ∨ a = c ∧ b < d
instance (a b c d : Int) : Decidable (ltE a b c d) := by unfold ltE; infer_instance
/-- The edge i stands well: its lesser vertex first, and not before the one ahead of it. -/
def okAt (es : List (Int × Int)) (i : Nat) : Prop := eA es i ≤ eB es i ∧ (0 < i → ¬ ltE (eA es i) (eB es i) (eA es (i - 1)) (eB es (i - 1)))
instance (es : List (Int × Int)) (i : Nat) : Decidable (okAt es i) := by unfold okAt; infer_instance
def InOrder (es : List (Int × Int)) : Prop := ∀ i, i < es.length → okAt es i
instance (es : List (Int × Int)) : Decidable (InOrder es) := by unfold InOrder; infer_instance
def IsG (n : Int) (es : List (Int × Int)) : Prop := Ends n es ∧ Cubic n.toNat es ∧ InOrder es
instance (n : Int) (es : List (Int × Int)) : Decidable (IsG n es) := by unfold IsG; infer_instance

theorem isG_sees {s : Int} {p : Option Addr} {es : List (Int × Int)} {w : World} (h : IsG s es) (hr : SeesE w p es) : ∃ b off, p = some ⟨b, off, none⟩ ∧ ReadsE w b off es := by
  rcases hr with rfl | h2
  · exact absurd h.1.1.2.2.2 (by have := h.1.1.1; simp; omega)
  · exact h2

theorem isG_len {s : Int} {es : List (Int × Int)} (h : IsG s es) : es.length ≤ 30 := by
  have h1 := h.1.1.2.2.2
  have h2 := h.1.1.2.1
  omega


end Go.Proofs.Ytaafbdpdpndplaa
