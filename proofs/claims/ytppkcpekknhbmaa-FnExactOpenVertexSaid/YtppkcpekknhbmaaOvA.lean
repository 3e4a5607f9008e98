/- A vertex opened, as plain lists: what the model lists and what the program makes of the edges. No program is named here. -/
import Derived.Test.YtppkcpekknhbmaaChnA
import Derived.Test.YtppkcpekknhbmaaRowsE
namespace Go.Proofs.Ytppkcpekknhbmaa
open Go.RowKit

/-- The corner that the edge number j at the vertex keeps. -/
def cornF (s v : Int) (j : Nat) : Int := if j = 0 then v else s + (j : Int) - 1
def newT (s v : Int) : List (Int × Int) := [(v, s), (v, s + 1), (s, s + 1)]
/-- The program: each edge at the vertex, one after the other, gets its corner. -/
def ovP (s v : Int) (L : List (Int × Int)) (xs : List (Nat × Int)) : List (Int × Int) := xs.zipIdx.foldl (fun L p => L.set p.1.1 (cornF s v p.2, p.1.2)) L
theorem ovP_nil (s v : Int) (L : List (Int × Int)) : ovP s v L [] = L := rfl
theorem ovP_snoc (s v : Int) (L : List (Int × Int)) (xs : List (Nat × Int)) (x : Nat × Int) : ovP s v L (xs ++ [x]) = (ovP s v L xs).set x.1 (cornF s v xs.length, x.2) := by
  unfold ovP
  rw [List.zipIdx_append, List.foldl_append]
  simp
theorem ovP_len (s v : Int) (L : List (Int × Int)) (xs : List (Nat × Int)) : (ovP s v L xs).length = L.length := by
  have h : ∀ (ys : List ((Nat × Int) × Nat)) (L : List (Int × Int)), (ys.foldl (fun L p => L.set p.1.1 (cornF s v p.2, p.1.2)) L).length = L.length := by
    intro ys
    induction ys with
    | nil => intro L; rfl
    | cons y ys ih => intro L; rw [List.foldl_cons, ih, List.length_set]
  exact h _ _
/-- The model: the edge number i. -/
def ovI (s v : Int) (es : List (Int × Int)) (y z i : Nat) : Int × Int := if i = y then (s, othE es v i) else if i = z then (s + 1, othE es v i) else (eA es i, eB es i)
def ovU (s v : Int) (es : List (Int × Int)) (y z k : Nat) : List (Int × Int) := (List.range k).map (ovI s v es y z)
theorem ovU_succ (s v : Int) (es : List (Int × Int)) (y z k : Nat) : ovU s v es y z (k + 1) = ovU s v es y z k ++ [ovI s v es y z k] := by
  unfold ovU
  rw [List.range_succ, List.map_append]
  rfl
theorem ovU_len (s v : Int) (es : List (Int × Int)) (y z k : Nat) : (ovU s v es y z k).length = k := by simp [ovU]
def yO (es : List (Int × Int)) (v : Int) : Nat := (onL es v).getD 1 0
def zO (es : List (Int × Int)) (v : Int) : Nat := (onL es v).getD 2 0
def ovM (s v : Int) (es : List (Int × Int)) : List (Int × Int) := ovU s v es (yO es v) (zO es v) es.length ++ newT s v
theorem ovM_len (s v : Int) (es : List (Int × Int)) : (ovM s v es).length = es.length + 3 := by unfold ovM newT; rw [List.length_append, ovU_len]; rfl
theorem norm_swap {a b v : Int} (h : a = v ∨ b = v) : normE (v, a + b - v) = normE (a, b) := by
  unfold normE
  rcases h with rfl | rfl
  · rw [show a + b - a = b by omega]
  · rw [show a + b - b = a by omega]
    show (min b a, max b a) = (min a b, max a b)
    rw [Int.min_comm, Int.max_comm]
theorem ov_same {s : Int} {es : List (Int × Int)} (g : IsG s es) {v : Int} (hv : 0 ≤ v ∧ v < s) {xs : List (Nat × Int)} (h1 : xs.map Prod.fst = onL es v) (h2 : ∀ x, x ∈ xs → x.2 = othE es v x.1) :
    sortE (ovP s v (es ++ newT s v) xs) = sortE (ovM s v es) := by
  obtain ⟨x, y, z, hL, hxy, hxz, hyz⟩ := onL_three g hv
  have hy : yO es v = y := by unfold yO; rw [hL]; rfl
  have hz : zO es v = z := by unfold zO; rw [hL]; rfl
  have hm : ∀ e, e = x ∨ e = y ∨ e = z → e < es.length ∧ onE es v e = true := fun e he => onL_mem.1 (by rw [hL]; simpa using he)
  have hxl := (hm x (.inl rfl)).1
  have hyl := (hm y (.inr (.inl rfl))).1
  have hzl := (hm z (.inr (.inr rfl))).1
  rw [hL] at h1
  match xs, h1, h2 with
  | [(x', a), (y', b), (z', c)], h1, h2 =>
    simp only [List.map_cons, List.map_nil, List.cons.injEq, and_true] at h1
    obtain ⟨rfl, rfl, rfl⟩ := h1
    have ha : a = othE es v x' := h2 (x', a) (by simp)
    have hb : b = othE es v y' := h2 (y', b) (by simp)
    have hc : c = othE es v z' := h2 (z', c) (by simp)
    have hP : ovP s v (es ++ newT s v) [(x', a), (y', b), (z', c)] = (((es ++ newT s v).set x' (v, a)).set y' (s, b)).set z' (s + 1, c) := by
      show ((((es ++ newT s v).set x' (cornF s v 0, a)).set y' (cornF s v 1, b)).set z' (cornF s v 2, c)) = _
      rw [show cornF s v 0 = v from rfl, show cornF s v 1 = s by unfold cornF; rw [if_neg (by omega)]; omega, show cornF s v 2 = s + 1 by unfold cornF; rw [if_neg (by omega)]; omega]
    rw [hP]
    unfold sortE
    congr 1
    have hlen : (ovM s v es).length = es.length + 3 := ovM_len s v es
    refine List.ext_getElem (by simp [hlen, newT]) fun i i1 i2 => ?_
    rw [List.getElem_map, List.getElem_map]
    have hi : i < es.length + 3 := by rw [List.length_map, hlen] at i2; exact i2
    rw [List.getElem_set, List.getElem_set, List.getElem_set]
    have hM : i < es.length → (ovM s v es)[i]'(by omega) = ovI s v es y' z' i := fun h => by
      unfold ovM
      simp only [hy, hz]
      rw [List.getElem_append_left (by rw [ovU_len]; exact h)]
      simp [ovU]
    by_cases e3 : z' = i
    · subst e3
      rw [if_pos rfl, hM hzl]
      unfold ovI
      rw [if_neg (fun h => hyz h.symm), if_pos rfl, hc]
    · rw [if_neg e3]
      by_cases e2 : y' = i
      · subst e2
        rw [if_pos rfl, hM hyl]
        unfold ovI
        rw [if_pos rfl, hb]
      · rw [if_neg e2]
        by_cases e1 : x' = i
        · subst e1
          rw [if_pos rfl, hM hxl]
          unfold ovI
          rw [if_neg (fun h => e2 h.symm), if_neg (fun h => e3 h.symm), ha]
          have ho := (hm x' (.inl rfl)).2
          exact norm_swap (by simpa [onE] using ho)
        · rw [if_neg e1]
          by_cases hil : i < es.length
          · rw [hM hil, List.getElem_append_left hil]
            unfold ovI
            rw [if_neg (fun h => e2 h.symm), if_neg (fun h => e3 h.symm), eA_lt hil, eB_lt hil]
          · have h3 : (ovM s v es)[i]'(by omega) = (newT s v)[i - es.length]'(by simp [newT]; omega) := by
              unfold ovM
              rw [List.getElem_append_right (by rw [ovU_len]; omega)]
              simp only [ovU_len]
            rw [h3, List.getElem_append_right (by omega)]
def fOpenVertex (s : Int) (es : List (Int × Int)) (v : Int) : Int × List (Int × Int) × Int :=
  if IsG s es then (if 0 ≤ v ∧ v < s then (if 18 < s then (0, [], 3) else (s + 2, sortE (ovM s v es), 0)) else (0, [], 2)) else (0, [], 1)
theorem fOpenVertex_len (s : Int) (es : List (Int × Int)) (v : Int) (h : es.length ≤ 1048576) : (fOpenVertex s es v).2.1.length ≤ 1048576 := by
  unfold fOpenVertex
  split
  · rename_i g
    have := isG_len g
    split
    · split
      · simp
      · show (sortE _).length ≤ _
        rw [sortE_length, ovM_len]
        omega
    · simp
  · simp

end Go.Proofs.Ytppkcpekknhbmaa
