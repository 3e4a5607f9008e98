/- Which edges can be cut, and what comes of it: what both programs answer. -/
import Derived.Test.YtfdlhdgmbjdhbaaStrS
import Derived.Test.YtfdlhdgmbjdhbaaCntI
import Derived.Test.YtfdlhdgmbjdhbaaBrgS

/- Cutting an edge, as lists: where just one edge joins two vertices, leaving out the edges that are equal to it and leaving it out by its number come to the same. -/
namespace Go.Proofs.Ytfdlhdgmbjdhbaa
open Go.RowKit

theorem jn_one {es : List (Int × Int)} {x y : Int} (h1 : jcU es x y es.length = 1) {i j : Nat} (hi : i < es.length) (hj : j < es.length) (pi : jnP es x y i = true) (pj : jnP es x y j = true) : i = j := by
  unfold jcU at h1
  obtain ⟨a, ha⟩ := List.length_eq_one_iff.1 h1
  have m1 : i ∈ (List.range es.length).filter (jnP es x y) := by rw [List.mem_filter, List.mem_range]; exact ⟨hi, pi⟩
  have m2 : j ∈ (List.range es.length).filter (jnP es x y) := by rw [List.mem_filter, List.mem_range]; exact ⟨hj, pj⟩
  rw [ha, List.mem_singleton] at m1 m2
  rw [m1, m2]
theorem onL_nth {s : Int} {es : List (Int × Int)} (g : IsG s es) {v : Int} (hv : 0 ≤ v ∧ v < s) : onL es v = (List.range 3).map (nthO es v) := by
  have h3 := atF_three g hv.1 hv.2
  rw [onL_at, List.length_map] at h3
  refine List.ext_getElem (by simp [h3]) fun i h1 h2 => ?_
  rw [List.getElem_map, List.getElem_range]
  unfold nthO
  rw [List.getD_eq_getElem?_getD, List.getElem?_eq_getElem h1]
  rfl
theorem arF_eq (es : List (Int × Int)) (v : Int) : arF es v = (onL es v).map fun i => (i, othE es v i) := by
  unfold arF arU onL
  refine List.map_congr_left fun i hi => ?_
  rw [List.mem_filter] at hi
  rw [across_oth hi.2]
theorem endL_cut {s : Int} {es : List (Int × Int)} (g : IsG s es) {v : Int} (hv : 0 ≤ v ∧ v < s) {e : Nat} (he : e < es.length) {x y : Int} (hx : eA es e = x) (hy : eB es e = y) (h1 : jcU es x y es.length = 1) :
    endL es x y (arF es v) = exU es v (e : Int) 3 := by
  have pe : jnP es x y e = true := by unfold jnP; rw [hx, hy]; simp
  unfold endL exU
  rw [arF_eq, onL_nth g hv, List.map_map, List.filter_map, List.map_map]
  have hc : (List.range 3).filter ((fun p : Nat × Int => keepE es x y p.1) ∘ ((fun i => (i, othE es v i)) ∘ nthO es v)) = (List.range 3).filter (fun i => !decide ((nthO es v i : Int) = (e : Int))) :=
    List.filter_congr fun i hi => by
      have hi := List.mem_range.1 hi
      have hn := nth_in g hv hi
      show keepE es x y (nthO es v i) = _
      unfold keepE
      by_cases h : nthO es v i = e
      · rw [h, hx, hy]
        simp
      · have hj : jnP es x y (nthO es v i) = false := by
          cases hp : jnP es x y (nthO es v i)
          · rfl
          · exact absurd (jn_one h1 hn.1 he hp pe) h
        unfold jnP at hj
        rw [hj, decide_eq_false (by omega)]
  rw [hc]
  rfl

end Go.Proofs.Ytfdlhdgmbjdhbaa

/- Cutting an edge, as lists of edges: what the program takes out of the edges, with the two new ones put behind them, is what the model makes. -/
namespace Go.Proofs.Ytfdlhdgmbjdhbaa
open Go.RowKit

theorem cut_asc {s : Int} {es : List (Int × Int)} (h : IsG s es) {i : Nat} (hi : i < es.length) : eA es i < eB es i := by
  have h1 := (h.2.2 i hi).1
  have h2 := (isG_pos h hi).2.2.2.2
  omega
/-- At an end of an edge there are two others. -/
theorem exU_two {s : Int} {es : List (Int × Int)} (g : IsG s es) {e : Nat} (he : e < es.length) {v : Int} (hv : 0 ≤ v ∧ v < s) (on : onE es v e = true) :
    ∃ i j, (i < es.length ∧ onE es v i = true ∧ i ≠ e) ∧ (j < es.length ∧ onE es v j = true ∧ j ≠ e) ∧ exU es v (e : Int) 3 = [othE es v i, othE es v j] := by
  have hl := onL_nth g hv
  have hm : e ∈ onL es v := onL_mem.2 ⟨he, on⟩
  have hd : (onL es v).Nodup := List.Pairwise.filter _ List.nodup_range
  have h0 := nth_in g hv (show 0 < 3 by omega)
  have h1 := nth_in g hv (show 1 < 3 by omega)
  have h2 := nth_in g hv (show 2 < 3 by omega)
  rw [hl] at hm hd
  unfold exU
  rw [show List.range 3 = [0, 1, 2] from rfl] at hm hd ⊢
  obtain ⟨a, ha⟩ : ∃ a, nthO es v 0 = a := ⟨_, rfl⟩
  obtain ⟨b, hb⟩ : ∃ b, nthO es v 1 = b := ⟨_, rfl⟩
  obtain ⟨c, hc⟩ : ∃ c, nthO es v 2 = c := ⟨_, rfl⟩
  simp only [List.map_cons, List.map_nil, ha, hb, hc] at hm hd
  rw [ha] at h0
  rw [hb] at h1
  rw [hc] at h2
  have hab : a ≠ b := fun h => by simp [h] at hd
  have hac : a ≠ c := fun h => by simp [h] at hd
  have hbc : b ≠ c := fun h => by simp [h] at hd
  have hm : e = a ∨ e = b ∨ e = c := by simpa using hm
  have key : ∀ x : Nat, (!decide ((x : Int) = (e : Int))) = !decide (x = e) := fun x => congrArg not (decide_eq_decide.2 ⟨fun h => by omega, fun h => by omega⟩)
  simp only [List.filter_cons, List.filter_nil, key, ha, hb, hc]
  rcases hm with rfl | rfl | rfl
  · refine ⟨b, c, ⟨h1.1, h1.2.1, fun h => hab h.symm⟩, ⟨h2.1, h2.2.1, fun h => hac h.symm⟩, ?_⟩
    rw [decide_eq_true (rfl : e = e), decide_eq_false (fun h : b = e => hab h.symm), decide_eq_false (fun h : c = e => hac h.symm)]
    simp [hb, hc]
  · refine ⟨a, c, ⟨h0.1, h0.2.1, hab⟩, ⟨h2.1, h2.2.1, fun h => hbc h.symm⟩, ?_⟩
    rw [decide_eq_false hab, decide_eq_true (rfl : e = e), decide_eq_false (fun h : c = e => hbc h.symm)]
    simp [ha, hc]
  · refine ⟨a, b, ⟨h0.1, h0.2.1, hac⟩, ⟨h1.1, h1.2.1, hbc⟩, ?_⟩
    rw [decide_eq_false hac, decide_eq_false hbc, decide_eq_true (rfl : e = e)]
    simp [ha, hb]
/-- The other ends of other edges at an end of an edge that joins its vertices alone are none of these. -/
theorem cut_away {s : Int} {es : List (Int × Int)} (g : IsG s es) {e : Nat} (he : e < es.length) (h1 : jcU es (eA es e) (eB es e) es.length = 1) {v : Int} (hv : v = eA es e ∨ v = eB es e) {i : Nat} (hi : i < es.length) (on : onE es v i = true) (ne : i ≠ e) :
    0 ≤ othE es v i ∧ othE es v i < s ∧ othE es v i ≠ eA es e ∧ othE es v i ≠ eB es e := by
  have p := isG_pos g hi
  have q := isG_pos g he
  have a1 := cut_asc g hi
  have a2 := cut_asc g he
  unfold onE at on
  have on : eA es i = v ∨ eB es i = v := by simpa using on
  have hn : ¬ (eA es i = eA es e ∧ eB es i = eB es e) := fun h => ne (jn_one h1 hi he (by unfold jnP; rw [h.1, h.2]; simp) (by unfold jnP; simp))
  unfold othE
  rcases hv with rfl | rfl <;> omega

/-- The other ends at the lesser and the greater vertex of an edge. -/
def cutO (es : List (Int × Int)) (e : Nat) : List Int := exU es (eA es e) (e : Int) 3
def cutT (es : List (Int × Int)) (e : Nat) : List Int := exU es (eB es e) (e : Int) 3
/-- The edges with an edge cut, as the model makes them. -/
def cutM (es : List (Int × Int)) (e : Nat) : List (Int × Int) :=
  mdU 0 es [eA es e, eB es e] es.length ++ [(numW (eI (cutO es e) 0) [eA es e, eB es e] 2, numW (eI (cutO es e) 1) [eA es e, eB es e] 2), (numW (eI (cutT es e) 0) [eA es e, eB es e] 2, numW (eI (cutT es e) 1) [eA es e, eB es e] 2)]
/-- And as the program puts them together, before it takes the vertices out. -/
def cutP (es : List (Int × Int)) (e : Nat) : List (Int × Int) := es ++ [(eI (cutO es e) 0, eI (cutO es e) 1), (eI (cutT es e) 0, eI (cutT es e) 1)]
theorem cutP_len (es : List (Int × Int)) (e : Nat) : (cutP es e).length = es.length + 2 := by
  unfold cutP
  rw [List.length_append]
  rfl
theorem cutM_len (es : List (Int × Int)) (e : Nat) : 2 ≤ (cutM es e).length ∧ (cutM es e).length ≤ es.length + 2 := by
  unfold cutM
  rw [List.length_append]
  have := mdU_len 0 es [eA es e, eB es e] es.length
  simp
  omega

section
variable {s : Int} {es : List (Int × Int)} {e : Nat}
theorem cut_onA (es : List (Int × Int)) (e : Nat) : onE es (eA es e) e = true := by unfold onE; simp
theorem cut_onB (es : List (Int × Int)) (e : Nat) : onE es (eB es e) e = true := by unfold onE; simp
theorem cutO_len (g : IsG s es) (he : e < es.length) : (cutO es e).length = 2 := by
  have p := isG_pos g he
  obtain ⟨i, j, _, _, h⟩ := exU_two g he ⟨p.1, p.2.1⟩ (cut_onA es e)
  unfold cutO
  rw [h]
  rfl
theorem cutT_len (g : IsG s es) (he : e < es.length) : (cutT es e).length = 2 := by
  have p := isG_pos g he
  obtain ⟨i, j, _, _, h⟩ := exU_two g he ⟨p.2.2.1, p.2.2.2.1⟩ (cut_onB es e)
  unfold cutT
  rw [h]
  rfl
theorem cut_in (g : IsG s es) (he : e < es.length) {k : Nat} (hk : k < 2) : (0 ≤ eI (cutO es e) k ∧ eI (cutO es e) k < s) ∧ (0 ≤ eI (cutT es e) k ∧ eI (cutT es e) k < s) := by
  have p := isG_pos g he
  constructor
  · obtain ⟨i, j, hi, hj, h⟩ := exU_two g he ⟨p.1, p.2.1⟩ (cut_onA es e)
    unfold cutO
    rw [h]
    have a : ∀ i, i < es.length ∧ onE es (eA es e) i = true ∧ i ≠ e → 0 ≤ othE es (eA es e) i ∧ othE es (eA es e) i < s := fun i hi => by
      have q := isG_pos g hi.1
      have on := hi.2.1
      unfold onE at on
      have on : eA es i = eA es e ∨ eB es i = eA es e := by simpa using on
      unfold othE
      omega
    match k, hk with
    | 0, _ => exact a i hi
    | 1, _ => exact a j hj
  · obtain ⟨i, j, hi, hj, h⟩ := exU_two g he ⟨p.2.2.1, p.2.2.2.1⟩ (cut_onB es e)
    unfold cutT
    rw [h]
    have a : ∀ i, i < es.length ∧ onE es (eB es e) i = true ∧ i ≠ e → 0 ≤ othE es (eB es e) i ∧ othE es (eB es e) i < s := fun i hi => by
      have q := isG_pos g hi.1
      have on := hi.2.1
      unfold onE at on
      have on : eA es i = eB es e ∨ eB es i = eB es e := by simpa using on
      unfold othE
      omega
    match k, hk with
    | 0, _ => exact a i hi
    | 1, _ => exact a j hj
theorem cut_out (g : IsG s es) (he : e < es.length) (h1 : jcU es (eA es e) (eB es e) es.length = 1) {k : Nat} (hk : k < 2) : ¬ eI (cutO es e) k ∈ [eA es e, eB es e] ∧ ¬ eI (cutT es e) k ∈ [eA es e, eB es e] := by
  have p := isG_pos g he
  have key : ∀ y : Int, y ≠ eA es e → y ≠ eB es e → ¬ y ∈ [eA es e, eB es e] := fun y h2 h3 h => by
    rcases List.mem_cons.1 h with h | h
    · exact h2 h
    · exact h3 (List.mem_singleton.1 h)
  constructor
  · obtain ⟨i, j, hi, hj, h⟩ := exU_two g he ⟨p.1, p.2.1⟩ (cut_onA es e)
    have ai := cut_away g he h1 (.inl rfl) hi.1 hi.2.1 hi.2.2
    have aj := cut_away g he h1 (.inl rfl) hj.1 hj.2.1 hj.2.2
    unfold cutO
    rw [h]
    match k, hk with
    | 0, _ => exact key _ ai.2.2.1 ai.2.2.2
    | 1, _ => exact key _ aj.2.2.1 aj.2.2.2
  · obtain ⟨i, j, hi, hj, h⟩ := exU_two g he ⟨p.2.2.1, p.2.2.2.1⟩ (cut_onB es e)
    have ai := cut_away g he h1 (.inr rfl) hi.1 hi.2.1 hi.2.2
    have aj := cut_away g he h1 (.inr rfl) hj.1 hj.2.1 hj.2.2
    unfold cutT
    rw [h]
    match k, hk with
    | 0, _ => exact key _ ai.2.2.1 ai.2.2.2
    | 1, _ => exact key _ aj.2.2.1 aj.2.2.2
theorem cut_big (g : IsG s es) (he : e < es.length) (h1 : jcU es (eA es e) (eB es e) es.length = 1) : 4 ≤ s := by
  have p := isG_pos g he
  have a := (cut_in g he (show 0 < 2 by omega)).1
  have b := (cut_out g he h1 (show 0 < 2 by omega)).1
  have k := g.1.1
  unfold okSize at k
  have b1 : eI (cutO es e) 0 ≠ eA es e := fun h => b (by rw [h]; simp)
  have b2 : eI (cutO es e) 0 ≠ eB es e := fun h => b (by rw [h]; simp)
  omega
theorem cut_same (g : IsG s es) (he : e < es.length) (h1 : jcU es (eA es e) (eB es e) es.length = 1) : outU (cutP es e) [eA es e, eB es e] (cutP es e).length = cutM es e := by
  rw [outU_flat]
  unfold cutP cutM
  rw [List.filter_append, List.map_append, mdU_flat]
  have o0 := cut_out g he h1 (show 0 < 2 by omega)
  have o1 := cut_out g he h1 (show 1 < 2 by omega)
  have f1 : ([(eI (cutO es e) 0, eI (cutO es e) 1), (eI (cutT es e) 0, eI (cutT es e) 1)] : List (Int × Int)).filter (outQ [eA es e, eB es e]) = [(eI (cutO es e) 0, eI (cutO es e) 1), (eI (cutT es e) 0, eI (cutT es e) 1)] := by
    rw [List.filter_eq_self]
    intro y hy
    unfold outQ
    rcases List.mem_cons.1 hy with rfl | hy
    · dsimp only
      rw [decide_eq_false o0.1, decide_eq_false o1.1]; rfl
    · rw [List.mem_singleton.1 hy]
      dsimp only
      rw [decide_eq_false o0.2, decide_eq_false o1.2]; rfl
  rw [f1]
  congr 1
  simp only [List.map_cons, List.map_nil, outM, List.length_cons, List.length_nil, Nat.zero_add, Nat.reduceAdd, Int.zero_add]
theorem cutP_in (g : IsG s es) (he : e < es.length) {i : Nat} (hi : i < es.length + 2) : (0 ≤ eA (cutP es e) i ∧ eA (cutP es e) i ≤ 1000) ∧ (0 ≤ eB (cutP es e) i ∧ eB (cutP es e) i ≤ 1000) := by
  have k := g.1.1
  unfold okSize at k
  unfold cutP
  by_cases h2 : i < es.length
  · have e1 := (eAB_append es [(eI (cutO es e) 0, eI (cutO es e) 1), (eI (cutT es e) 0, eI (cutT es e) 1)] i).1 h2
    rw [e1.1, e1.2]
    have := isG_pos g h2
    omega
  · have e1 := (eAB_append es [(eI (cutO es e) 0, eI (cutO es e) 1), (eI (cutT es e) 0, eI (cutT es e) 1)] i).2 (by omega)
    rw [e1.1, e1.2]
    have c0 := cut_in g he (show 0 < 2 by omega)
    have c1 := cut_in g he (show 1 < 2 by omega)
    obtain ⟨j, hj⟩ : ∃ j, i - es.length = j := ⟨_, rfl⟩
    rw [hj]
    rcases (show j = 0 ∨ j = 1 by omega) with rfl | rfl
    · show (0 ≤ eI (cutO es e) 0 ∧ eI (cutO es e) 0 ≤ 1000) ∧ (0 ≤ eI (cutO es e) 1 ∧ eI (cutO es e) 1 ≤ 1000)
      omega
    · show (0 ≤ eI (cutT es e) 0 ∧ eI (cutT es e) 0 ≤ 1000) ∧ (0 ≤ eI (cutT es e) 1 ∧ eI (cutT es e) 1 ≤ 1000)
      omega
end

end Go.Proofs.Ytfdlhdgmbjdhbaa

namespace Go.Proofs.Ytfdlhdgmbjdhbaa
open Go.RowKit

theorem edgs_one (s : Int) (es : List (Int × Int)) (e : Int) : edgsCode s es [e] = if IsG s es then (if 0 ≤ e ∧ e < es.length then 0 else 2) else 1 := by
  unfold edgsCode
  by_cases h : IsG s es
  · rw [if_pos h, if_pos h]
    by_cases h2 : 0 ≤ e ∧ e < es.length
    · rw [if_pos h2, if_pos (fun i hi => by
        obtain rfl : i = 0 := by simp at hi; omega
        exact h2)]
    · rw [if_neg h2, if_neg (fun h3 => h2 (h3 0 (by simp)))]
  · rw [if_neg h, if_neg h]

/-- An edge can be cut. -/
def cutOk (es : List (Int × Int)) (e : Nat) : Prop := jcU es (eA es e) (eB es e) es.length = 1 ∧ eI (cutO es e) 0 ≠ eI (cutO es e) 1 ∧ eI (cutT es e) 0 ≠ eI (cutT es e) 1
instance (es : List (Int × Int)) (e : Nat) : Decidable (cutOk es e) := by unfold cutOk; infer_instance
def cutR (s : Int) (es : List (Int × Int)) (e : Nat) : Int × List (Int × Int) × Int := if cutOk es e then (s - 2, sortE (cutM es e), 0) else (0, [], 5)
theorem cutR_no {s : Int} {es : List (Int × Int)} {e : Nat} (h : ¬ cutOk es e) : cutR s es e = (0, [], 5) := if_neg h
theorem cutR_yes {s : Int} {es : List (Int × Int)} {e : Nat} (h : cutOk es e) : cutR s es e = (s - 2, sortE (cutM es e), 0) := if_pos h

theorem reads_twoM (w : World) (x y : Int) (t : TypeId) (g : Nat) (hg : g = w.heap.size) : ReadsI (w.alloc (.cells #[.int .i64 x, .int .i64 y] t)) g 0 [x, y] := fun i hi => by
  subst hg
  rcases (by simp at hi; omega : i = 0 ∨ i = 1) with rfl | rfl <;> simp [eI]

end Go.Proofs.Ytfdlhdgmbjdhbaa
