/- Rows of rows of numbers in memory, and what the laws do with them: compare, mark, look whether the marks hold. -/
import Derived.Test.YtaafbdpdpndplaaLawsF
import Derived.Deep.RegionWith
namespace Go.Proofs.Ytaafbdpdpndplaa
open Go.RowKit

/-- The i-th of some lists. -/
def lI (Ls : List (List Int)) (i : Nat) : List Int := Ls.getD i []
theorem lI_lt {Ls : List (List Int)} {i : Nat} (h : i < Ls.length) : Ls[i]? = some (lI Ls i) := by
  unfold lI
  rw [List.getD_eq_getElem?_getD, List.getElem?_eq_getElem h]
  rfl

def ReadsL (w : World) (b off : Nat) (Ls : List (List Int)) : Prop :=
  ∀ i, i < Ls.length → ∃ q c, w.cell? ⟨b, off + i, none⟩ = some (.slice q (lI Ls i).length c) ∧ SeesI w q (lI Ls i)
def SeesL (w : World) (p : Option Addr) (Ls : List (List Int)) : Prop := Ls = [] ∨ ∃ b off, p = some ⟨b, off, none⟩ ∧ ReadsL w b off Ls

/-- A row of rows of the call's own, from block B on: each row in a block of its own. -/
def OwnL (B : Nat) (w : World) (g cap : Nat) (Ls : List (List Int)) : Prop :=
  ∃ cur, w.heap[g]? = some (.cells cur 46 (0, 0)) ∧ cur.size = cap ∧ Ls.length ≤ cap ∧ cap ≤ maxLen ∧ B ≤ g ∧
    (∀ i, i < Ls.length → ∃ q c, cur[i]? = some (.slice q (lI Ls i).length c) ∧ FreshI B w q (lI Ls i).length c (lI Ls i)) ∧
    (∀ i j v u, i < Ls.length → j < Ls.length → i ≠ j → cur[i]? = some v → cur[j]? = some u → v.ownBlock = none ∨ v.ownBlock ≠ u.ownBlock)
def FreshL (B : Nat) (w : World) (q : Option Addr) (n cap : Nat) (Ls : List (List Int)) : Prop :=
  Ls.length = n ∧ ((q = none ∧ n = 0 ∧ cap = 0) ∨ ∃ g, q = some ⟨g, 0, none⟩ ∧ OwnL B w g cap Ls)

section
variable {w w' : World} {b off g cap n B : Nat} {Ls : List (List Int)} {p q : Option Addr}
theorem ReadsL.on (h : ReadsL w b off Ls) (hb : Below w.heap.size w w') : ReadsL w' b off Ls := fun i hi => by
  obtain ⟨q, c, h1, h2⟩ := h i hi
  have hl : b < w.heap.size := World.block_lt_of_cell? w ⟨b, off + i, none⟩ h1
  exact ⟨q, c, (World.cell?_of_block (w := w) (hb.block b hl)).trans h1, h2.on hb⟩
theorem SeesL.on (h : SeesL w p Ls) (hb : Below w.heap.size w w') : SeesL w' p Ls := by
  rcases h with h | ⟨b, off, hp, h⟩
  · exact .inl h
  · exact .inr ⟨b, off, hp, h.on hb⟩
theorem own_lt {q : Option Addr} {m c : Nat} {xs : List Int} {r : Nat} (h : FreshI B w q m c xs) (hr : r < B) : (Value.slice q m c).ownBlock = none ∨ (Value.slice q m c).ownBlock ≠ some r := by
  cases ho : (Value.slice q m c).ownBlock with
  | none => exact .inl rfl
  | some b => exact .inr (fun e => by have := (h.own ho).1; injection e with e; omega)
theorem OwnL.lt (h : OwnL B w g cap Ls) : g < w.heap.size := by
  obtain ⟨cur, hc, _⟩ := h
  exact (Array.getElem?_eq_some_iff.1 hc).1
theorem OwnL.grown (h : OwnL B w g cap Ls) {row : Option Nat} (hg : w.grownBy w' row) (hr : ∀ r, row = some r → r < B) : OwnL B w' g cap Ls := by
  have hl := h.lt
  obtain ⟨cur, hc, h1, h2, h3, h4, h5, h6⟩ := h
  refine ⟨cur, (hg.block g hl (fun e => by have := hr g e.symm; omega)).trans hc, h1, h2, h3, h4, fun i hi => ?_, h6⟩
  obtain ⟨q, c, e1, e2⟩ := h5 i hi
  refine ⟨q, c, e1, e2.kept hg ?_⟩
  cases hrow : row with
  | none =>
    cases ho : (Value.slice q (lI Ls i).length c).ownBlock with
    | none => exact .inl rfl
    | some b => exact .inr (by simp)
  | some r => exact own_lt e2 (hr r hrow)
theorem OwnL.on (h : OwnL B w g cap Ls) (hb : Below w.heap.size w w') : OwnL B w' g cap Ls := h.grown (grown_below hb) (fun r e => by cases e)
theorem OwnL.reads (h : OwnL B w g cap Ls) : ReadsL w g 0 Ls := fun i hi => by
  obtain ⟨cur, hc, h1, h2, h3, h4, h5, h6⟩ := h
  obtain ⟨q, c, e1, e2⟩ := h5 i hi
  exact ⟨q, c, by rw [Nat.zero_add]; exact (cell_of_row w g _ cur _ _ hc).trans e1, e2.sees⟩
theorem FreshL.sees (h : FreshL B w q n cap Ls) : SeesL w q Ls := by
  rcases h with ⟨hl, ⟨_, h, _⟩ | ⟨g, rfl, h⟩⟩
  · exact .inl (List.eq_nil_of_length_eq_zero (hl.trans h))
  · exact .inr ⟨g, 0, rfl, h.reads⟩
theorem FreshL.grown (h : FreshL B w q n cap Ls) {row : Option Nat} (hg : w.grownBy w' row) (hr : ∀ r, row = some r → r < B) : FreshL B w' q n cap Ls := by
  rcases h with ⟨hl, h | ⟨g, rfl, h⟩⟩
  · exact ⟨hl, .inl h⟩
  · exact ⟨hl, .inr ⟨g, rfl, h.grown hg hr⟩⟩
theorem FreshL.on (h : FreshL B w q n cap Ls) (hb : Below w.heap.size w w') : FreshL B w' q n cap Ls := h.grown (grown_below hb) (fun r e => by cases e)
end


def sumLL (Ls : List (List Int)) : Nat → Nat
  | 0 => 0
  | j + 1 => sumLL Ls j + (lI Ls j).length
def markU (k0 : Int) (Ls : List (List Int)) : Nat → List (List Int)
  | 0 => Ls
  | j + 1 => (markU k0 Ls j).set j (marksI (k0 + sumLL Ls j) (lI Ls j).length)
theorem markU_length (k0 : Int) (Ls : List (List Int)) (j : Nat) : (markU k0 Ls j).length = Ls.length := by
  induction j with
  | zero => rfl
  | succ j ih => rw [markU, List.length_set, ih]
theorem lI_set {Ls : List (List Int)} {k i : Nat} {x : List Int} (hk : k < Ls.length) : lI (Ls.set k x) i = if i = k then x else lI Ls i := by
  unfold lI
  rw [List.getD_eq_getElem?_getD, List.getD_eq_getElem?_getD, List.getElem?_set]
  by_cases h : i = k
  · subst h; simp [hk]
  · simp [Ne.symm h, h]
theorem lI_markU (k0 : Int) (Ls : List (List Int)) (j i : Nat) (hj : j ≤ Ls.length) : lI (markU k0 Ls j) i = if i < j then marksI (k0 + sumLL Ls i) (lI Ls i).length else lI Ls i := by
  induction j with
  | zero => rfl
  | succ j ih =>
    rw [markU, lI_set (by rw [markU_length]; omega), ih (by omega)]
    by_cases h : i = j
    · subst h; rw [if_pos rfl, if_pos (by omega)]
    · rw [if_neg h]
      by_cases h2 : i < j
      · rw [if_pos h2, if_pos (by omega)]
      · rw [if_neg h2, if_neg (by omega)]
theorem sumLL_mono (Ls : List (List Int)) {i j : Nat} (h : i ≤ j) : sumLL Ls i ≤ sumLL Ls j := by
  induction j with
  | zero => obtain rfl : i = 0 := by omega
            exact Nat.le_refl _
  | succ j ih =>
    rcases Nat.lt_or_ge i (j + 1) with h2 | h2
    · have := ih (by omega); simp only [sumLL]; omega
    · obtain rfl : i = j + 1 := by omega
      exact Nat.le_refl _
theorem sumLL_lt (Ls : List (List Int)) {i n : Nat} (h : i < n) : sumLL Ls i + (lI Ls i).length ≤ sumLL Ls n := sumLL_mono Ls (show i + 1 ≤ n by omega)

section
variable {w w' : World} {g cap n B : Nat} {Ls : List (List Int)}
theorem row_other {cur : Array Value} {m c : Nat} {q : Option Addr} {xs : List Int} (hg : w.heap[g]? = some (.cells cur 46 (0, 0))) (h : FreshI B w q m c xs) : some g ≠ (Value.slice q m c).ownBlock := fun e => by
  rcases h.form with ⟨rfl, _⟩ | ⟨g', rfl, _, cur', hc', _⟩
  · cases e
  · have e1 : g = g' := Option.some.inj e
    subst e1
    have e2 := Option.some.inj (hg.symm.trans hc')
    injection e2 with _ e3
    exact absurd e3 (by decide)
theorem OwnL.step (h : OwnL B w g cap Ls) {j m c : Nat} {q : Option Addr} {ys : List Int} (hj : j < Ls.length) (hq : w.cell? ⟨g, j, none⟩ = some (.slice q m c)) (hg : w.grownBy w' (Value.slice q m c).ownBlock) (hf : FreshI B w' q m c ys) (hl : ys.length = (lI Ls j).length) : OwnL B w' g cap (Ls.set j ys) := by
  have hlt := h.lt
  obtain ⟨cur, hc, h1, h2, h3, h4, h5, h6⟩ := h
  have hcj : cur[j]? = some (.slice q m c) := (cell_of_row w g _ cur _ _ hc).symm.trans hq
  have hm : m = ys.length := hf.2.symm
  obtain ⟨qj, cj, ej1, ej2⟩ := h5 j hj
  have hne : some g ≠ (Value.slice q m c).ownBlock := by
    have e := Option.some.inj (hcj.symm.trans ej1)
    rw [e]
    exact row_other hc ej2
  refine ⟨cur, (hg.block g hlt hne).trans hc, h1, by rw [List.length_set]; exact h2, h3, h4, fun i hi => ?_, fun i k v u hi hk => h6 i k v u (by rwa [List.length_set] at hi) (by rwa [List.length_set] at hk)⟩
  rw [List.length_set] at hi
  rw [lI_set hj]
  by_cases e : i = j
  · subst e
    rw [if_pos rfl]
    subst hm
    exact ⟨q, c, hcj, hf⟩
  · rw [if_neg e]
    obtain ⟨q', c', e1, e2⟩ := h5 i hi
    exact ⟨q', c', e1, e2.kept hg (h6 i j _ _ hi hj e e1 hcj)⟩
end






theorem Box.below {w w' : World} {M B n c : Nat} {s : Int} {p : Option Addr} (h : Box w B s p n c) (hb : Below M w w') (hl : B < M) : Box w' B s p n c :=
  ⟨(World.cell?_of_block (w := w) (hb.block B hl)).trans h.1, (World.cell?_of_block (w := w) (hb.block B hl)).trans h.2⟩
theorem sumLL_le {Ls : List (List Int)} {m : Nat} (h : ∀ i, i < Ls.length → (lI Ls i).length ≤ m) (n : Nat) (hn : n ≤ Ls.length) : sumLL Ls n ≤ n * m := by
  induction n with
  | zero => exact Nat.zero_le _
  | succ n ih =>
    have h1 := ih (by omega)
    have h2 := h n (by omega)
    rw [Nat.succ_mul]
    simp only [sumLL]
    omega

end Go.Proofs.Ytaafbdpdpndplaa
