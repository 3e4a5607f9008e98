/- Which renumberings lead a graph to another one, told by the numbers of edges that join two vertices. No program is named here. -/
import Derived.Test.YtbimllpfbgjajaaRowsE
import Derived.Test.YtbimllpfbgjajaaOnce
import Derived.Test.YtbimllpfbgjajaaChnA
namespace Go.Proofs.Ytbimllpfbgjajaa
open Go.RowKit

/-- How many edges join two vertices. -/
def adjC (es : List (Int × Int)) (v w : Int) : Nat := (es.map normE).count (normE (v, w))
theorem normE_swap (v w : Int) : normE (v, w) = normE (w, v) := by
  unfold normE
  dsimp only
  rw [Int.min_comm, Int.max_comm]
theorem adjC_sym (es : List (Int × Int)) (v w : Int) : adjC es v w = adjC es w v := by unfold adjC; rw [normE_swap]
theorem normE_eq {a b c d : Int} : normE (a, b) = normE (c, d) ↔ (a = c ∧ b = d) ∨ (a = d ∧ b = c) := by
  unfold normE
  simp only [Prod.mk.injEq]
  omega
/-- One edge more. -/
theorem adjC_step {es : List (Int × Int)} {m : Nat} (hm : m < es.length) (v w : Int) :
    adjC (es.take (m + 1)) v w = adjC (es.take m) v w + (if (eA es m = v ∧ eB es m = w) ∨ (eA es m = w ∧ eB es m = v) then 1 else 0) := by
  unfold adjC
  rw [List.take_add_one, pair_at hm, List.map_append, List.count_append]
  simp only [Option.toList_some, List.map_cons, List.map_nil, List.count_singleton]
  congr 1
  by_cases h : (eA es m = v ∧ eB es m = w) ∨ (eA es m = w ∧ eB es m = v)
  · rw [if_pos h, if_pos (by rw [beq_iff_eq]; exact normE_eq.2 h)]
  · rw [if_neg h, if_neg (by rw [beq_iff_eq]; exact fun e => h (normE_eq.1 e))]
theorem eachF_inj {n : Int} {ps : List Int} (h : eachF n ps) {i j : Nat} (hi : i < ps.length) (hj : j < ps.length) (e : eI ps i = eI ps j) : i = j := by
  rw [eI_lt hi, eI_lt hj] at e
  exact (List.getElem_inj h.2.2).1 e
theorem eachF_sur {n : Int} {ps : List Int} (h : eachF n ps) {x : Int} (h0 : 0 ≤ x) (hx : x < n) : ∃ i, i < ps.length ∧ eI ps i = x := by
  refine Classical.byContradiction fun hno => ?_
  have hl := h.1
  obtain ⟨i, j, hij, hj, e⟩ := pigeon ps.length (fun i => if i < ps.length then (eI ps i).toNat else x.toNat) (fun i hi => by
    split
    · rename_i hlt
      have := h.2.1 i hlt
      omega
    · omega)
  rw [if_pos (by omega)] at e
  have h1 := h.2.1 i (by omega)
  split at e
  · rename_i hlt
    have h2 := h.2.1 j hlt
    have := eachF_inj h (i := i) (j := j) (by omega) hlt (by omega)
    omega
  · exact hno ⟨i, by omega, by omega⟩
theorem ren_count {N : Nat} {ps : List Int} (hp : eachF (N : Int) ps) {v w : Nat} (hv : v < N) (hw : w < N) : ∀ es : List (Int × Int), (∀ e ∈ es, 0 ≤ e.1 ∧ e.1 < N ∧ 0 ≤ e.2 ∧ e.2 < N) → adjC (renE ps es) (eI ps v) (eI ps w) = adjC es v w
  | [], _ => rfl
  | e :: es, h => by
    have ih := ren_count hp hv hw es (fun x hx => h x (List.mem_cons_of_mem _ hx))
    have he := h e List.mem_cons_self
    have hl : ps.length = N := by have := hp.1; omega
    unfold adjC at ih ⊢
    show List.count _ (normE (eI ps e.1.toNat, eI ps e.2.toNat) :: (renE ps es).map normE) = List.count _ (normE e :: es.map normE)
    rw [List.count_cons, List.count_cons, ih]
    congr 1
    have hinj : ∀ {a : Int} {x : Nat}, 0 ≤ a → a < N → x < N → (eI ps a.toNat = eI ps x ↔ a = x) := fun {a x} h1 h2 h3 => ⟨fun e => by have := eachF_inj hp (i := a.toNat) (j := x) (by omega) (by omega) e; omega, fun e => by rw [e]; rfl⟩
    have e1 : (normE (eI ps e.1.toNat, eI ps e.2.toNat) == normE (eI ps v, eI ps w)) = (normE e == normE ((v : Int), (w : Int))) := by
      rw [Bool.eq_iff_iff, beq_iff_eq, beq_iff_eq, normE_eq, show e = (e.1, e.2) from rfl, normE_eq]
      dsimp only
      rw [hinj he.1 he.2.1 hv, hinj he.2.2.1 he.2.2.2 hw, hinj he.1 he.2.1 hw, hinj he.2.2.1 he.2.2.2 hv]
    rw [e1]
theorem norm_of_inOrder {es : List (Int × Int)} (h : InOrder es) : es.map normE = es := by
  refine List.ext_getElem (by simp) fun i h1 h2 => ?_
  have := (h i h2).1
  rw [eA_lt h2, eB_lt h2] at this
  rw [List.getElem_map]
  unfold normE
  exact Prod.ext (Int.min_eq_left this) (Int.max_eq_right this)
theorem ends_mem {N : Nat} {es : List (Int × Int)} (h : Ends (N : Int) es) : ∀ e ∈ es, 0 ≤ e.1 ∧ e.1 < N ∧ 0 ≤ e.2 ∧ e.2 < N ∧ e.1 ≠ e.2 := fun e he => by
  obtain ⟨i, hi, rfl⟩ := List.getElem_of_mem he
  have := h.2 i hi
  rwa [eA_lt hi, eB_lt hi] at this
/-- A renumbering leads a graph to another one just where as many edges join the images of any two vertices as join these. -/
theorem lead_iff {N : Nat} {es fs : List (Int × Int)} {ps : List Int} (hg : IsG (N : Int) es) (hh : IsG (N : Int) fs) (hp : eachF (N : Int) ps) :
    sortE (renE ps es) = fs ↔ ∀ v w : Nat, w < v → v < N → adjC es v w = adjC fs (eI ps v) (eI ps w) := by
  have hE := fun e he => (ends_mem hg.1 e he)
  have hE' : ∀ e ∈ es, 0 ≤ e.1 ∧ e.1 < N ∧ 0 ≤ e.2 ∧ e.2 < N := fun e he => ⟨(hE e he).1, (hE e he).2.1, (hE e he).2.2.1, (hE e he).2.2.2.1⟩
  have hl : ps.length = N := by have := hp.1; omega
  constructor
  · intro e v w hw hv
    rw [← ren_count hp hv (by omega) es hE']
    unfold adjC
    rw [norm_of_inOrder hh.2.2, ← e]
    exact ((sortE_perm (renE ps es)).count_eq _).symm
  · intro h
    have hpm : (sortE (renE ps es)).Perm fs := by
      refine (sortE_perm _).trans ?_
      rw [List.perm_iff_count]
      intro x
      have hcase : ∀ v w : Nat, v < N → w < N → v ≠ w → x = normE (eI ps v, eI ps w) → List.count x ((renE ps es).map normE) = List.count x fs := by
        intro v w hv hw hne hx
        have h1 := ren_count hp hv hw es hE'
        have h2 : adjC es v w = adjC fs (eI ps v) (eI ps w) := by
          rcases Nat.lt_or_ge w v with hlt | hge
          · exact h v w hlt hv
          · rw [adjC_sym es, adjC_sym fs]
            exact h w v (by omega) hw
        rw [h2] at h1
        unfold adjC at h1
        rw [norm_of_inOrder hh.2.2, ← hx] at h1
        exact h1
      by_cases m1 : x ∈ (renE ps es).map normE
      · obtain ⟨y, hy, rfl⟩ := List.mem_map.1 m1
        obtain ⟨e, he, rfl⟩ := List.mem_map.1 hy
        have h3 := hE e he
        exact hcase e.1.toNat e.2.toNat (by omega) (by omega) (by omega) rfl
      · by_cases m2 : x ∈ fs
        · have h3 := ends_mem hh.1 x m2
          obtain ⟨v, hv, e1⟩ := eachF_sur hp h3.1 h3.2.1
          obtain ⟨w, hw, e2⟩ := eachF_sur hp h3.2.2.1 h3.2.2.2.1
          refine hcase v w (by omega) (by omega) (by rintro rfl; exact h3.2.2.2.2 (by omega)) ?_
          rw [e1, e2]
          have h4 : x ∈ fs.map normE := by rw [norm_of_inOrder hh.2.2]; exact m2
          obtain ⟨y, hy, e⟩ := List.mem_map.1 h4
          rw [← e]
          unfold normE
          dsimp only
          exact Prod.ext (by dsimp only; omega) (by dsimp only; omega)
        · rw [List.count_eq_zero.2 m1, List.count_eq_zero.2 m2]
    exact sorted_unique hpm (sortE_pairwise _) (inOrder_pairwise _ hh.2.2)

end Go.Proofs.Ytbimllpfbgjajaa
