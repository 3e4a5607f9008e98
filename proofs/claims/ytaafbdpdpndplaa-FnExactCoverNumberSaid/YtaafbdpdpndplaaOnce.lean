/- Lists of numbers each once, and graphs beside each other and renumbered, as plain lists. No program is named here. -/
import Derived.Test.YtaafbdpdpndplaaInts
namespace Go.Proofs.Ytaafbdpdpndplaa
open Go.RowKit

/-- A list has each of the numbers 0 to n - 1 once. -/
def eachF (n : Int) (xs : List Int) : Prop := (xs.length : Int) = n ∧ (∀ i, i < xs.length → 0 ≤ eI xs i ∧ eI xs i < n) ∧ xs.Nodup
instance (n : Int) (xs : List Int) : Decidable (eachF n xs) := by unfold eachF; infer_instance

theorem take_int {xs : List Int} {k : Nat} (hk : k < xs.length) : xs.take (k + 1) = xs.take k ++ [eI xs k] := by
  rw [List.take_add_one, int_at hk]
  rfl

theorem met_step {xs : List Int} {ms : List Bool} {N k X : Nat} (hk : k < xs.length) (hm : ms.length = N) (hX : eI xs k = X) (hXN : X < N)
    (h : ∀ v, v < N → eL ms v = decide ((v : Int) ∈ xs.take k)) : ∀ v, v < N → eL (ms.set X true) v = decide ((v : Int) ∈ xs.take (k + 1)) := fun v hv => by
  rw [eL_set (by omega), take_int hk, hX, h v hv]
  by_cases e : v = X
  · subst e; simp
  · have : ¬ (v : Int) = (X : Int) := by omega
    simp [e, this]

theorem nodup_step {xs : List Int} {k : Nat} (hk : k < xs.length) (h : (xs.take k).Nodup) (hn : eI xs k ∉ xs.take k) : (xs.take (k + 1)).Nodup := by
  rw [take_int hk, List.nodup_append]
  refine ⟨h, by simp, fun a ha b hb => ?_⟩
  simp at hb
  subst hb
  rintro rfl
  exact hn ha

theorem not_nodup {xs : List Int} {k : Nat} (hk : k < xs.length) (hn : eI xs k ∈ xs.take k) : ¬ xs.Nodup := fun h => by
  have h1 : (xs.take (k + 1)).Nodup := h.sublist (List.take_sublist _ _)
  rw [take_int hk, List.nodup_append] at h1
  exact h1.2.2 _ hn _ (by simp) rfl

theorem each_all {n : Int} {xs : List Int} (hl : (xs.length : Int) = n) (hr : ∀ i, i < xs.length → 0 ≤ eI xs i ∧ eI xs i < n) (hd : (xs.take xs.length).Nodup) : eachF n xs := by
  rw [List.take_length] at hd
  exact ⟨hl, hr, hd⟩

/-- Edges with renumbered vertices. -/
def renE (ps : List Int) (es : List (Int × Int)) : List (Int × Int) := es.map fun e => (eI ps e.1.toNat, eI ps e.2.toNat)
theorem renE_length (ps : List Int) (es : List (Int × Int)) : (renE ps es).length = es.length := by simp [renE]
theorem renE_step {ps : List Int} {es : List (Int × Int)} {k X Y : Nat} (hk : k < es.length) (hX : eA es k = X) (hY : eB es k = Y) : renE ps (es.take (k + 1)) = renE ps (es.take k) ++ [(eI ps X, eI ps Y)] := by
  rw [List.take_add_one, pair_at hk]; simp [renE, hX, hY]
theorem renE_at {ps : List Int} {es : List (Int × Int)} {k X Y : Nat} (hk : k < es.length) (hX : eA es k = X) (hY : eB es k = Y) : (renE ps es)[k]? = some (eI ps X, eI ps Y) := by
  unfold renE
  rw [List.getElem?_map, pair_at hk, Option.map_some, hX, hY]
  simp

def upE (s : Int) (es : List (Int × Int)) : List (Int × Int) := es.map fun e => (e.1 + s, e.2 + s)
theorem upE_length (s : Int) (es : List (Int × Int)) : (upE s es).length = es.length := by simp [upE]
theorem upE_step {s : Int} {es : List (Int × Int)} {k : Nat} (hk : k < es.length) : upE s (es.take (k + 1)) = upE s (es.take k) ++ [(eA es k + s, eB es k + s)] := by
  rw [List.take_add_one, pair_at hk]; simp [upE]
theorem upE_at {s : Int} {es : List (Int × Int)} {k : Nat} (hk : k < es.length) : eA (upE s es) k = eA es k + s ∧ eB (upE s es) k = eB es k + s := by
  rw [eA_lt (by rw [upE_length]; exact hk), eB_lt (by rw [upE_length]; exact hk), eA_lt hk, eB_lt hk]
  simp [upE]
theorem eAB_append (xs ys : List (Int × Int)) (i : Nat) : (i < xs.length → eA (xs ++ ys) i = eA xs i ∧ eB (xs ++ ys) i = eB xs i) ∧ (xs.length ≤ i → eA (xs ++ ys) i = eA ys (i - xs.length) ∧ eB (xs ++ ys) i = eB ys (i - xs.length)) := by
  constructor
  · intro h
    simp [eA, eB, List.getD_eq_getElem?_getD, List.getElem?_append_left h]
  · intro h
    simp [eA, eB, List.getD_eq_getElem?_getD, List.getElem?_append_right h]

theorem inOrder_beside {s t : Int} {xs ys : List (Int × Int)} (hx : IsG s xs) (hy : IsG t ys) : InOrder (xs ++ upE s ys) := fun i hi => by
  rw [List.length_append, upE_length] at hi
  rcases Nat.lt_or_ge i xs.length with h | h
  · have h1 := hx.2.2 i h
    refine ⟨by rw [((eAB_append xs (upE s ys) i).1 h).1, ((eAB_append xs (upE s ys) i).1 h).2]; exact h1.1, fun h0 => ?_⟩
    rw [((eAB_append xs (upE s ys) i).1 h).1, ((eAB_append xs (upE s ys) i).1 h).2, ((eAB_append xs (upE s ys) (i - 1)).1 (by omega)).1, ((eAB_append xs (upE s ys) (i - 1)).1 (by omega)).2]
    exact h1.2 h0
  · obtain ⟨j, rfl⟩ : ∃ j, i = xs.length + j := ⟨i - xs.length, by omega⟩
    have hj : j < ys.length := by omega
    have h1 := hy.2.2 j hj
    have e1 := (eAB_append xs (upE s ys) (xs.length + j)).2 (by omega)
    rw [Nat.add_sub_cancel_left, (upE_at hj).1, (upE_at hj).2] at e1
    refine ⟨by rw [e1.1, e1.2]; have := h1.1; omega, fun h0 => ?_⟩
    rw [e1.1, e1.2]
    by_cases j0 : j = 0
    · subst j0
      rw [((eAB_append xs (upE s ys) (xs.length + 0 - 1)).1 (by omega)).1, ((eAB_append xs (upE s ys) (xs.length + 0 - 1)).1 (by omega)).2]
      have h2 := (hx.1.2 (xs.length + 0 - 1) (by omega)).2.1
      have h3 := (hy.1.2 0 hj).1
      unfold ltE
      omega
    · have e2 := (eAB_append xs (upE s ys) (xs.length + j - 1)).2 (by omega)
      have e3 : xs.length + j - 1 - xs.length = j - 1 := by omega
      rw [e3, (upE_at (by omega)).1, (upE_at (by omega)).2] at e2
      rw [e2.1, e2.2]
      have h4 := h1.2 (by omega)
      unfold ltE at h4 ⊢
      omega

theorem sortE_beside {s t : Int} {xs ys : List (Int × Int)} (hx : IsG s xs) (hy : IsG t ys) : sortE (xs ++ upE s ys) = xs ++ upE s ys := sortE_of_inOrder (inOrder_beside hx hy)

end Go.Proofs.Ytaafbdpdpndplaa
