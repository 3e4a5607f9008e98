/- The colouring that a matching's even cycles make, as plain lists: the numbers written along the cycles. No program is named here. -/
import Derived.Test.YthncgpbgffbpgaaLensA
import Derived.Test.YthncgpbgffbpgaaRowsM
namespace Go.Proofs.Ythncgpbgffbpgaa
open Go.RowKit

/-- Along a list of places the numbers 1, 2, 1, 2, .. are written, the first k of them. -/
def pstU (cs L : List Int) : Nat → List Int
  | 0 => cs
  | k + 1 => (pstU cs L k).set (eI L k).toNat (1 + ((k : Int) % 2))
def pstL (n : Nat) (Ls : List (List Int)) : Nat → List Int
  | 0 => List.replicate n 0
  | k + 1 => pstU (pstL n Ls k) (lR Ls k) (lR Ls k).length
theorem pstU_succ (cs L : List Int) (k : Nat) : pstU cs L (k + 1) = (pstU cs L k).set (eI L k).toNat (1 + ((k : Int) % 2)) := rfl
theorem pstL_succ (n : Nat) (Ls : List (List Int)) (k : Nat) : pstL n Ls (k + 1) = pstU (pstL n Ls k) (lR Ls k) (lR Ls k).length := rfl
theorem pstU_len (cs L : List Int) : ∀ k, (pstU cs L k).length = cs.length
  | 0 => rfl
  | k + 1 => by rw [pstU_succ, List.length_set]; exact pstU_len cs L k
theorem pstL_len (n : Nat) (Ls : List (List Int)) : ∀ k, (pstL n Ls k).length = n
  | 0 => by simp [pstL]
  | k + 1 => by rw [pstL_succ, pstU_len]; exact pstL_len n Ls k
theorem pstL_app {n : Nat} {Ls : List (List Int)} {x : List Int} : ∀ {k : Nat}, k ≤ Ls.length → pstL n (Ls ++ [x]) k = pstL n Ls k
  | 0, _ => rfl
  | k + 1, hk => by rw [pstL_succ, pstL_succ, pstL_app (by omega), lR_app (by omega)]
theorem pstL_push {n : Nat} {Ls : List (List Int)} {x : List Int} : pstL n (Ls ++ [x]) (Ls ++ [x]).length = pstU (pstL n Ls Ls.length) x x.length := by
  rw [List.length_append, List.length_cons, List.length_nil, pstL_succ, pstL_app (Nat.le_refl _), lR_last]

/-- No list of an odd length. -/
def evenP (Ls : List (List Int)) : Prop := ∀ i, i < Ls.length → (lR Ls i).length % 2 = 0
instance (Ls : List (List Int)) : Decidable (evenP Ls) := by unfold evenP; infer_instance
def oddN (Ls : List (List Int)) : Nat → Nat
  | 0 => 0
  | k + 1 => oddN Ls k + (lR Ls k).length % 2
theorem oddN_le (Ls : List (List Int)) : ∀ k, oddN Ls k ≤ k
  | 0 => Nat.le_refl _
  | k + 1 => by have := oddN_le Ls k; unfold oddN; omega
theorem oddN_zero (Ls : List (List Int)) : ∀ k, oddN Ls k = 0 ↔ ∀ i, i < k → (lR Ls i).length % 2 = 0
  | 0 => ⟨fun _ i hi => by omega, fun _ => rfl⟩
  | k + 1 => by
    have ih := oddN_zero Ls k
    have e : oddN Ls (k + 1) = oddN Ls k + (lR Ls k).length % 2 := rfl
    rw [e]
    constructor
    · intro h i hi
      by_cases h1 : i = k
      · subst h1; omega
      · exact ih.1 (by omega) i (by omega)
    · intro h
      have h1 := ih.2 (fun i hi => h i (by omega))
      have h2 := h k (by omega)
      omega
theorem evenP_app {Ls : List (List Int)} {x : List Int} : evenP (Ls ++ [x]) ↔ evenP Ls ∧ x.length % 2 = 0 := by
  constructor
  · intro h
    refine ⟨fun i hi => ?_, ?_⟩
    · have h1 := h i (by rw [List.length_append]; omega)
      rwa [lR_app hi] at h1
    · have h1 := h Ls.length (by rw [List.length_append]; simp)
      rwa [lR_last] at h1
  · rintro ⟨h1, h2⟩ i hi
    rw [List.length_append] at hi
    simp at hi
    by_cases h : i = Ls.length
    · subst h; rw [lR_last]; exact h2
    · rw [lR_app (by omega)]; exact h1 i (by omega)

/-- All places of the cycles are edges. -/
theorem cyL_edges {s : Int} {es : List (Int × Int)} {ok : Nat → Bool} {nx : Int → Nat → Nat} (G : TwoG s es ok nx) {e : Nat} (he : ok e = true) {i : Nat} (hi : i < (cyL es nx e).length) : ∃ f : Nat, eI (cyL es nx e) i = f ∧ f < es.length := by
  have hm : eI (cyL es nx e) i ∈ cyL es nx e := by rw [eI_lt hi]; exact List.getElem_mem hi
  have hf : ∃ f : Nat, eI (cyL es nx e) i = f := by
    unfold cyL cyP at hm ⊢
    obtain ⟨j, _, hj⟩ := List.mem_map.1 hm
    exact ⟨_, hj.symm⟩
  obtain ⟨f, hf⟩ := hf
  rw [hf] at hm
  exact ⟨f, hf, G.lt f (((cyL_mem G he).1 hm) (fun f => ok f = true) he (fun _ _ _ _ _ hy _ _ => hy))⟩
theorem cyU_mem {es : List (Int × Int)} {ok : Nat → Bool} {nx : Int → Nat → Nat} {k : Nat} {L : List Int} (h : L ∈ cyU es ok nx k) : ∃ e, ok e = true ∧ L = cyL es nx e := by
  unfold cyU at h
  obtain ⟨e, he, rfl⟩ := List.mem_map.1 h
  have h1 := (List.mem_filter.1 he).2
  unfold leadC at h1
  rw [Bool.and_eq_true] at h1
  exact ⟨e, h1.1, rfl⟩
theorem cyU_edges {s : Int} {es : List (Int × Int)} {ok : Nat → Bool} {nx : Int → Nat → Nat} (G : TwoG s es ok nx) {k j i : Nat} (hj : j < (cyU es ok nx k).length) (hi : i < (lR (cyU es ok nx k) j).length) : ∃ f : Nat, eI (lR (cyU es ok nx k) j) i = f ∧ f < es.length := by
  have hm : lR (cyU es ok nx k) j ∈ cyU es ok nx k := by
    unfold lR
    rw [List.getD_eq_getElem?_getD, List.getElem?_eq_getElem hj]
    exact List.getElem_mem hj
  obtain ⟨e, he, hL⟩ := cyU_mem hm
  rw [hL] at hi ⊢
  exact cyL_edges G he hi

def fColouringOf (s : Int) (es : List (Int × Int)) (xs : List Int) : List Int × Int :=
  if matCode s es xs = 0 then
    if evenP (cyU es (freeB es xs) (nxF es xs) es.length) then (pstL es.length (cyU es (freeB es xs) (nxF es xs) es.length) (cyU es (freeB es xs) (nxF es xs) es.length).length, 0) else ([], 4)
  else ([], matCode s es xs)
theorem fColouringOf_len (s : Int) (es : List (Int × Int)) (xs : List Int) (h0 : es.length ≤ 1048576) (_h1 : xs.length ≤ 1048576) : (fColouringOf s es xs).1.length ≤ 1048576 := by
  unfold fColouringOf
  split
  · split
    · rw [pstL_len]; exact h0
    · simp
  · simp

end Go.Proofs.Ythncgpbgffbpgaa
