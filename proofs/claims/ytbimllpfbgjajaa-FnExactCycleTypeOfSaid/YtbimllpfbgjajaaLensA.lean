/- Lengths in order: a list of numbers that grows by insertion. No program is named here. -/
import Derived.Test.YtbimllpfbgjajaaCycA
namespace Go.Proofs.Ytbimllpfbgjajaa
open Go.RowKit

theorem OwnI.cellK {w : World} {g cap i : Nat} {xs : List Int} (h : OwnI w g cap xs) (hi : i < xs.length) : w.cell? ⟨g, i, none⟩ = some (.int .i64 (eI xs i)) := by
  have := h.reads i hi
  rwa [Nat.zero_add] at this

def srtI (xs : List Int) : List Int := xs.mergeSort fun x y => decide (x ≤ y)
theorem srtI_eq {xs ys : List Int} (hp : xs.Perm ys) (hs : ys.Pairwise (fun x y => x ≤ y)) : srtI xs = ys := by
  have h1 : (srtI xs).Pairwise (fun x y => x ≤ y) := by
    have h := List.pairwise_mergeSort (le := fun x y : Int => decide (x ≤ y)) (fun a b c h1 h2 => by simp at *; omega) (fun a b => by simp; omega) xs
    exact h.imp (fun h => by simpa using h)
  have h2 : (srtI xs).Perm ys := (List.mergeSort_perm xs _).trans hp
  exact h2.eq_of_pairwise (fun a b _ _ h1 h2 => by omega) h1 hs
theorem srtI_sorted (xs : List Int) : (srtI xs).Pairwise (fun x y => x ≤ y) := by
  have h := List.pairwise_mergeSort (le := fun x y : Int => decide (x ≤ y)) (fun a b c h1 h2 => by simp at *; omega) (fun a b => by simp; omega) xs
  exact h.imp (fun h => by simpa using h)
theorem srtI_perm (xs : List Int) : (srtI xs).Perm xs := List.mergeSort_perm xs _
theorem srtI_len (xs : List Int) : (srtI xs).length = xs.length := (srtI_perm xs).length_eq
theorem ins_sorted {S : List Int} {x : Int} {a : Nat} (hs : S.Pairwise (fun x y => x ≤ y)) (ha : a ≤ S.length) (h1 : 0 < a → eI S (a - 1) ≤ x) (h2 : a < S.length → x ≤ eI S a) : (S.take a ++ x :: S.drop a).Pairwise (fun x y => x ≤ y) := by
  have hg := List.pairwise_iff_getElem.1 hs
  have hx : ∀ y, y ∈ S.drop a → x ≤ y := fun y hy => by
    obtain ⟨j, hj, e⟩ := List.getElem_of_mem hy
    rw [List.length_drop] at hj
    rw [List.getElem_drop] at e
    have h3 := h2 (by omega)
    rw [eI_lt (by omega)] at h3
    rcases Nat.eq_zero_or_pos j with h0 | h0
    · subst h0
      simp only [Nat.add_zero] at e
      omega
    · have := hg a (a + j) (by omega) (by omega) (by omega)
      omega
  have ht : ∀ y, y ∈ S.take a → y ≤ x := fun y hy => by
    obtain ⟨j, hj, e⟩ := List.getElem_of_mem hy
    rw [List.length_take] at hj
    rw [List.getElem_take] at e
    have h3 := h1 (by omega)
    rw [eI_lt (by omega)] at h3
    by_cases h0 : j = a - 1
    · subst h0; omega
    · have := hg j (a - 1) (by omega) (by omega) (by omega)
      omega
  refine List.pairwise_append.2 ⟨hs.sublist (List.take_sublist _ _), List.pairwise_cons.2 ⟨hx, hs.sublist (List.drop_sublist _ _)⟩, fun y hy z hz => ?_⟩
  rcases List.mem_cons.1 hz with rfl | hz
  · exact ht y hy
  · have := ht y hy; have := hx z hz; omega
theorem srtI_step {xs : List Int} {x : Int} {a : Nat} (ha : a ≤ (srtI xs).length) (h1 : 0 < a → eI (srtI xs) (a - 1) ≤ x) (h2 : a < (srtI xs).length → x ≤ eI (srtI xs) a) : srtI (xs ++ [x]) = (srtI xs).take a ++ x :: (srtI xs).drop a := by
  refine srtI_eq ?_ (ins_sorted (srtI_sorted xs) ha h1 h2)
  have e1 : (xs ++ [x]).Perm (x :: xs) := List.perm_append_comm.trans (List.Perm.refl _)
  have e2 : ((srtI xs).take a ++ x :: (srtI xs).drop a).Perm (x :: (srtI xs)) := by
    have h := List.perm_middle (a := x) (l₁ := (srtI xs).take a) (l₂ := (srtI xs).drop a)
    rwa [List.take_append_drop] at h
  exact e1.trans (((srtI_perm xs).symm.cons x).trans e2.symm)

def lensL (Ls : List (List Int)) : List Int := Ls.map fun L => (L.length : Int)
theorem lensL_len (Ls : List (List Int)) : (lensL Ls).length = Ls.length := by simp [lensL]
theorem lensL_take {Ls : List (List Int)} {i : Nat} (hi : i < Ls.length) : (lensL Ls).take (i + 1) = (lensL Ls).take i ++ [((Ls.getD i []).length : Int)] := by
  rw [List.take_succ_eq_append_getElem (by rw [lensL_len]; exact hi)]
  simp [lensL, hi]
def matCode (s : Int) (es : List (Int × Int)) (xs : List Int) : Int := if IsG s es then (if isMatP s es xs then 0 else 2) else 1
def fCyclesLeft (s : Int) (es : List (Int × Int)) (xs : List Int) : List Int × Int :=
  if matCode s es xs = 0 then (srtI (lensL (cyU es (freeB es xs) (nxF es xs) es.length)), 0) else ([], matCode s es xs)
theorem matCode_of {s : Int} {es : List (Int × Int)} {xs : List Int} (h : matCode s es xs = 0) : IsG s es ∧ isMatP s es xs := by
  unfold matCode at h
  split at h
  · split at h
    · exact ⟨by assumption, by assumption⟩
    · omega
  · omega
theorem fCyclesLeft_len (s : Int) (es : List (Int × Int)) (xs : List Int) (h0 : es.length ≤ 1048576) (_h1 : xs.length ≤ 1048576) : (fCyclesLeft s es xs).1.length ≤ 1048576 := by
  unfold fCyclesLeft
  split
  · rw [srtI_len, lensL_len]
    have := cyU_len es (freeB es xs) (nxF es xs) es.length
    omega
  · simp

end Go.Proofs.Ytbimllpfbgjajaa
