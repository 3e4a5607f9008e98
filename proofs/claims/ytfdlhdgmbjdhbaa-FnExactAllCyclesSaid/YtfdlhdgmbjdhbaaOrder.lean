/- Edges in their order: normal edges, the order of edges, and sorted lists. No program is named here. -/
import Derived.Test.YtfdlhdgmbjdhbaaGraphs
namespace Go.Proofs.Ytfdlhdgmbjdhbaa

def normE (e : Int × Int) : Int × Int := (min e.1 e.2, max e.1 e.2)
def leE (x y : Int × Int) : Bool := decide (¬ ltE y.1 y.2 x.1 x.2)
def sortE (es : List (Int × Int)) : List (Int × Int) := (es.map normE).mergeSort leE

theorem leE_trans (a b c : Int × Int) : leE a b → leE b c → leE a c := by
  unfold leE ltE
  simp
  omega
theorem leE_total (a b : Int × Int) : (leE a b || leE b a) = true := by
  unfold leE ltE
  simp
  omega

theorem sortE_pairwise (es : List (Int × Int)) : (sortE es).Pairwise (fun a b => leE a b = true) :=
  List.pairwise_mergeSort (fun a b c => leE_trans a b c) (fun a b => leE_total a b) _

theorem sortE_perm (es : List (Int × Int)) : (sortE es).Perm (es.map normE) := List.mergeSort_perm _ _

theorem sortE_length (es : List (Int × Int)) : (sortE es).length = es.length := by rw [(sortE_perm es).length_eq, List.length_map]

theorem inOrder_pairwise : ∀ (es : List (Int × Int)), InOrder es → es.Pairwise (fun a b => leE a b = true)
  | [], _ => List.Pairwise.nil
  | [a], _ => List.pairwise_singleton _ _
  | a :: b :: es, h => by
    have h2 : InOrder (b :: es) := fun i hi => by
      have h1 := h (i + 1) (by simpa using hi)
      refine ⟨by simpa [eA, eB] using h1.1, fun h0 => ?_⟩
      have h3 := h1.2 (by omega)
      obtain ⟨j, rfl⟩ : ∃ j, i = j + 1 := ⟨i - 1, by omega⟩
      simpa [eA, eB] using h3
    have ih := inOrder_pairwise (b :: es) h2
    have hab : leE a b = true := by
      have h1 := (h 1 (by simp)).2 (by omega)
      simpa [leE, eA, eB] using h1
    refine List.Pairwise.cons (fun c hc => ?_) ih
    rcases List.mem_cons.1 hc with rfl | hc
    · exact hab
    · exact leE_trans a b c hab ((List.pairwise_cons.1 ih).1 c hc)

theorem sortE_of_inOrder {es : List (Int × Int)} (h : InOrder es) : sortE es = es := by
  have h1 : es.map normE = es := by
    refine List.ext_getElem (by simp) fun i h1 h2 => ?_
    have := (h i h2).1
    rw [eA_lt h2, eB_lt h2] at this
    rw [List.getElem_map]
    unfold normE
    exact Prod.ext (Int.min_eq_left this) (Int.max_eq_right this)
  unfold sortE
  rw [h1]
  exact List.mergeSort_of_pairwise (inOrder_pairwise es h)

theorem inOrder_of_sortE {es : List (Int × Int)} (h : sortE es = es) : InOrder es := fun i hi => by
  have hm : ∀ e, e ∈ es → e.1 ≤ e.2 := fun e he => by
    rw [← h] at he
    obtain ⟨x, _, rfl⟩ := List.mem_map.1 ((sortE_perm es).mem_iff.1 he)
    unfold normE
    show min x.1 x.2 ≤ max x.1 x.2
    omega
  refine ⟨?_, fun h0 => ?_⟩
  · rw [eA_lt hi, eB_lt hi]
    exact hm _ (List.getElem_mem hi)
  · have hp := sortE_pairwise es
    rw [h] at hp
    have h1 := List.pairwise_iff_getElem.1 hp (i - 1) i (by omega) hi (by omega)
    rw [eA_lt hi, eB_lt hi, eA_lt (by omega), eB_lt (by omega)]
    simpa [leE] using h1

theorem sortE_beq (es : List (Int × Int)) : (sortE es == es) = decide (InOrder es) := by
  by_cases h : InOrder es
  · rw [decide_eq_true h, sortE_of_inOrder h]; simp
  · rw [decide_eq_false h]
    simp only [beq_eq_false_iff_ne, ne_eq]
    exact fun e => h (inOrder_of_sortE e)

theorem norm_at {es : List (Int × Int)} {k : Nat} (hk : k < es.length) : (es.map normE)[k]? = some (min (eA es k) (eB es k), max (eA es k) (eB es k)) := by
  rw [List.getElem?_map, pair_at hk, Option.map_some]
  rfl

end Go.Proofs.Ytfdlhdgmbjdhbaa
