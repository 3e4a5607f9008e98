/- Marks while faces are gone round. No program is named here. -/
import Derived.Test.YtpadnliebimceaaChnA
import Derived.Test.YtpadnliebimceaaCols
import Derived.Test.YtpadnliebimceaaOnce

/- Faces of a rotation as plain lists: the orbits of what follows a directed edge. No program is named here. -/
namespace Go.Proofs.Ytpadnliebimceaa
open Go.RowKit

/-- A permutation of the numbers below n. -/
structure PermN (nx : Nat → Nat) (n : Nat) : Prop where
  lt : ∀ d, d < n → nx d < n
  inj : ∀ a b, a < n → b < n → nx a = nx b → a = b
def itN (nx : Nat → Nat) (d : Nat) : Nat → Nat
  | 0 => d
  | k + 1 => nx (itN nx d k)
def perN (nx : Nat → Nat) (n d : Nat) : Nat := ((List.range n).find? fun k => itN nx d (k + 1) == d).getD 0 + 1
def orbN (nx : Nat → Nat) (n d : Nat) : List Nat := (List.range (perN nx n d)).map (itN nx d)
section
variable {nx : Nat → Nat} {n d : Nat}
theorem it_lt (h : PermN nx n) (hd : d < n) : ∀ k, itN nx d k < n
  | 0 => hd
  | k + 1 => h.lt _ (it_lt h hd k)
theorem it_add (nx : Nat → Nat) (d i : Nat) : ∀ k, itN nx d (i + k) = itN nx (itN nx d i) k
  | 0 => rfl
  | k + 1 => by
    show nx (itN nx d (i + k)) = nx (itN nx (itN nx d i) k)
    rw [it_add nx d i k]
theorem it_cancel (h : PermN nx n) (hd : d < n) : ∀ i k, itN nx d i = itN nx d (i + k) → itN nx d k = d
  | 0, k, e => by rw [Nat.zero_add] at e; exact e.symm
  | i + 1, k, e => by
    rw [show i + 1 + k = (i + k) + 1 by omega] at e
    exact it_cancel h hd i k (h.inj _ _ (it_lt h hd i) (it_lt h hd (i + k)) e)
theorem per_spec (h : PermN nx n) (hd : d < n) : 1 ≤ perN nx n d ∧ perN nx n d ≤ n ∧ itN nx d (perN nx n d) = d ∧ ∀ k, 0 < k → k < perN nx n d → itN nx d k ≠ d := by
  obtain ⟨i, j, hij, hj, e⟩ := pigeon n (fun k => itN nx d k) (fun k _ => it_lt h hd k)
  obtain ⟨k, rfl⟩ : ∃ k, j = i + k := ⟨j - i, by omega⟩
  have hk := it_cancel h hd i k e
  obtain ⟨q, hq⟩ : ∃ q, (List.range n).find? (fun k => itN nx d (k + 1) == d) = some q := by
    cases hf : (List.range n).find? (fun k => itN nx d (k + 1) == d) with
    | some q => exact ⟨q, rfl⟩
    | none =>
      have h1 := List.find?_eq_none.1 hf (k - 1) (List.mem_range.2 (by omega))
      rw [show k - 1 + 1 = k by omega, hk] at h1
      simp at h1
  have h1 := List.find?_some hq
  have h2 := List.mem_of_find?_eq_some hq
  rw [beq_iff_eq] at h1
  have h3 := List.mem_range.1 h2
  have hp : perN nx n d = q + 1 := by unfold perN; rw [hq]; rfl
  rw [hp]
  refine ⟨by omega, by omega, h1, fun m hm0 hm e2 => ?_⟩
  have h4 := List.find?_eq_some_iff_getElem.1 hq
  obtain ⟨_, i', hi', e3, h5⟩ := h4
  rw [List.getElem_range] at e3
  have h6 := h5 (m - 1) (by omega)
  rw [List.getElem_range, show m - 1 + 1 = m by omega, e2] at h6
  simp at h6
theorem it_diff (h : PermN nx n) (hd : d < n) {i j : Nat} (hij : i < j) (hj : j < perN nx n d) : itN nx d i ≠ itN nx d j := fun e => by
  obtain ⟨k, rfl⟩ : ∃ k, j = i + k := ⟨j - i, by omega⟩
  exact (per_spec h hd).2.2.2 k (by omega) (by omega) (it_cancel h hd i k e)
theorem it_mod (h : PermN nx n) (hd : d < n) : ∀ m k, itN nx d (m * perN nx n d + k) = itN nx d k
  | 0, k => by rw [Nat.zero_mul, Nat.zero_add]
  | m + 1, k => by
    rw [show (m + 1) * perN nx n d + k = perN nx n d + (m * perN nx n d + k) by rw [Nat.succ_mul]; omega, it_add, (per_spec h hd).2.2.1]
    exact it_mod h hd m k
theorem orb_iff (h : PermN nx n) (hd : d < n) (x : Nat) : x ∈ orbN nx n d ↔ ∃ k, itN nx d k = x := by
  unfold orbN
  rw [List.mem_map]
  constructor
  · rintro ⟨k, _, e⟩; exact ⟨k, e⟩
  · rintro ⟨k, e⟩
    have hp := (per_spec h hd).1
    refine ⟨k % perN nx n d, List.mem_range.2 (Nat.mod_lt _ hp), ?_⟩
    have h1 := it_mod h hd (k / perN nx n d) (k % perN nx n d)
    rw [show k / perN nx n d * perN nx n d + k % perN nx n d = k by rw [Nat.mul_comm]; exact Nat.div_add_mod k _] at h1
    rw [← h1, e]
theorem orb_self (h : PermN nx n) (hd : d < n) : d ∈ orbN nx n d := (orb_iff h hd d).2 ⟨0, rfl⟩
theorem orb_lt (h : PermN nx n) (hd : d < n) {x : Nat} (hx : x ∈ orbN nx n d) : x < n := by
  obtain ⟨k, rfl⟩ := (orb_iff h hd x).1 hx
  exact it_lt h hd k
theorem orb_symm (h : PermN nx n) (hd : d < n) {x : Nat} (hx : x ∈ orbN nx n d) : d ∈ orbN nx n x := by
  have hxn := orb_lt h hd hx
  obtain ⟨k, rfl⟩ := (orb_iff h hd x).1 hx
  refine (orb_iff h hxn d).2 ⟨(k + 1) * perN nx n d - k, ?_⟩
  have hp := (per_spec h hd).1
  have hle : k ≤ (k + 1) * perN nx n d := Nat.le_trans (Nat.le_succ k) (Nat.le_mul_of_pos_right _ hp)
  rw [← it_add, show k + ((k + 1) * perN nx n d - k) = (k + 1) * perN nx n d + 0 by omega, it_mod h hd]
  rfl
theorem orb_trans (h : PermN nx n) (hd : d < n) {x y : Nat} (hx : x ∈ orbN nx n d) (hy : y ∈ orbN nx n x) : y ∈ orbN nx n d := by
  have hxn := orb_lt h hd hx
  obtain ⟨k, rfl⟩ := (orb_iff h hd x).1 hx
  obtain ⟨l, rfl⟩ := (orb_iff h hxn y).1 hy
  exact (orb_iff h hd _).2 ⟨k + l, it_add nx d k l⟩

/-- A number is on the orbit of one of the first k numbers. -/
def metF (nx : Nat → Nat) (n k x : Nat) : Bool := (List.range k).any fun d => decide (x ∈ orbN nx n d)
theorem metF_iff {k x : Nat} : metF nx n k x = true ↔ ∃ d, d < k ∧ x ∈ orbN nx n d := by
  unfold metF
  rw [List.any_eq_true]
  constructor
  · rintro ⟨d, h1, h2⟩; exact ⟨d, List.mem_range.1 h1, of_decide_eq_true h2⟩
  · rintro ⟨d, h1, h2⟩; exact ⟨d, List.mem_range.2 h1, decide_eq_true h2⟩
theorem metF_succ (nx : Nat → Nat) (n k x : Nat) : metF nx n (k + 1) x = (metF nx n k x || decide (x ∈ orbN nx n k)) := by
  unfold metF
  rw [List.range_succ, List.any_append]
  simp
theorem metF_old (h : PermN nx n) {k : Nat} (hk : k < n) (hm : metF nx n k k = true) (x : Nat) : metF nx n (k + 1) x = metF nx n k x := by
  rw [metF_succ]
  by_cases hx : x ∈ orbN nx n k
  · obtain ⟨d, h1, h2⟩ := metF_iff.1 hm
    rw [metF_iff.2 ⟨d, h1, orb_trans h (by omega) h2 hx⟩]
    rfl
  · rw [decide_eq_false hx, Bool.or_false]
/-- What is on the orbit of a number that was not met was not met. -/
theorem metF_new (h : PermN nx n) {k : Nat} (hk : k < n) (hm : metF nx n k k = false) {x : Nat} (hx : x ∈ orbN nx n k) : metF nx n k x = false := by
  cases hc : metF nx n k x
  · rfl
  · obtain ⟨d, h1, h2⟩ := metF_iff.1 hc
    have h3 := orb_trans h (by omega) h2 (orb_symm h hk hx)
    rw [metF_iff.2 ⟨d, h1, h3⟩] at hm
    cases hm
/-- The orbits of the first k numbers, each once. -/
def facN (nx : Nat → Nat) (n k : Nat) : List (List Nat) := ((List.range k).filter fun d => !metF nx n d d).map (orbN nx n)
theorem facN_yes {k : Nat} (hm : metF nx n k k = false) : facN nx n (k + 1) = facN nx n k ++ [orbN nx n k] := by
  unfold facN
  rw [List.range_succ, List.filter_append, List.map_append, List.filter_cons_of_pos (by rw [hm]; rfl)]
  rfl
theorem facN_no {k : Nat} (hm : metF nx n k k = true) : facN nx n (k + 1) = facN nx n k := by
  unfold facN
  rw [List.range_succ, List.filter_append, List.map_append, List.filter_cons_of_neg (by rw [hm]; simp)]
  simp
theorem facN_len (nx : Nat → Nat) (n k : Nat) : (facN nx n k).length ≤ k := by
  unfold facN
  rw [List.length_map]
  exact Nat.le_trans (List.length_filter_le _ _) (by rw [List.length_range]; exact Nat.le_refl _)
theorem orbN_len (nx : Nat → Nat) (n d : Nat) : (orbN nx n d).length = perN nx n d := by unfold orbN; rw [List.length_map, List.length_range]
end

/- Directed edges: 2 e goes from the first end of the edge e to the second one, 2 e + 1 back. -/
def frD (es : List (Int × Int)) (d : Nat) : Int := if d % 2 = 0 then eA es (d / 2) else eB es (d / 2)
def toD (es : List (Int × Int)) (d : Nat) : Int := if d % 2 = 0 then eB es (d / 2) else eA es (d / 2)
/-- What follows a directed edge on a face of a rotation. -/
def nxD (es : List (Int × Int)) (xs : List Int) (d : Nat) : Nat :=
  2 * (onL es (toD es d)).getD (((onL es (toD es d)).idxOf (d / 2) + 1 + (eI xs (toD es d).toNat).toNat) % 3) 0 +
    (if eA es ((onL es (toD es d)).getD (((onL es (toD es d)).idxOf (d / 2) + 1 + (eI xs (toD es d).toNat).toNat) % 3) 0) = toD es d then 0 else 1)
theorem dir_half (e t : Nat) (ht : t < 2) : (2 * e + t) / 2 = e ∧ (2 * e + t) % 2 = t := by omega
theorem onL_getD {s : Int} {es : List (Int × Int)} (g : IsG s es) {v : Int} (hv : 0 ≤ v ∧ v < s) : (onL es v).length = 3 ∧ (onL es v).Nodup ∧ ∀ i, i < 3 → (onL es v).getD i 0 < es.length ∧ onE es v ((onL es v).getD i 0) = true := by
  obtain ⟨x, y, z, h, h1, h2, h3⟩ := onL_three g hv
  rw [h]
  refine ⟨rfl, by simp [h1, h2, h3], fun i hi => ?_⟩
  have hx := onL_mem.1 (show x ∈ onL es v by rw [h]; simp)
  have hy := onL_mem.1 (show y ∈ onL es v by rw [h]; simp)
  have hz := onL_mem.1 (show z ∈ onL es v by rw [h]; simp)
  rcases (by omega : i = 0 ∨ i = 1 ∨ i = 2) with rfl | rfl | rfl
  · exact hx
  · exact hy
  · exact hz
theorem toD_in {N : Nat} {es : List (Int × Int)} (g : IsG (N : Int) es) {d : Nat} (hd : d < 2 * es.length) : (0 ≤ toD es d ∧ toD es d < N) ∧ onE es (toD es d) (d / 2) = true ∧ d / 2 < es.length := by
  have hl : d / 2 < es.length := by omega
  have h := g.1.2 (d / 2) hl
  unfold okEdge at h
  unfold toD onE
  split <;> simp <;> omega
theorem nxD_at {N : Nat} {es : List (Int × Int)} {xs : List Int} (g : IsG (N : Int) es) {d : Nat} (hd : d < 2 * es.length) :
    ∃ i j, i < 3 ∧ (onL es (toD es d)).getD i 0 = d / 2 ∧ (onL es (toD es d)).idxOf (d / 2) = i ∧ j = (i + 1 + (eI xs (toD es d).toNat).toNat) % 3 ∧ nxD es xs d / 2 = (onL es (toD es d)).getD j 0 ∧ frD es (nxD es xs d) = toD es d ∧ nxD es xs d / 2 < es.length := by
  obtain ⟨h1, h2, h3⟩ := toD_in g hd
  obtain ⟨l1, l2, l3⟩ := onL_getD g h1
  have hm := onL_mem.2 ⟨h3, h2⟩
  have hi := List.idxOf_lt_length_of_mem hm
  rw [l1] at hi
  have hj : ((onL es (toD es d)).idxOf (d / 2) + 1 + (eI xs (toD es d).toNat).toNat) % 3 < 3 := Nat.mod_lt _ (by decide)
  have h4 := l3 _ hj
  obtain ⟨E, hE⟩ : ∃ E, (onL es (toD es d)).getD (((onL es (toD es d)).idxOf (d / 2) + 1 + (eI xs (toD es d).toNat).toNat) % 3) 0 = E := ⟨_, rfl⟩
  rw [hE] at h4
  have hn : nxD es xs d = 2 * E + (if eA es E = toD es d then 0 else 1) := by unfold nxD; rw [hE]
  have hn2 : nxD es xs d / 2 = E := by rw [hn]; split <;> omega
  refine ⟨(onL es (toD es d)).idxOf (d / 2), _, hi, ?_, rfl, rfl, ?_, ?_, ?_⟩
  · rw [List.getD_eq_getElem?_getD, List.getElem?_eq_getElem (by omega), List.getElem_idxOf]
    rfl
  · rw [hn2, hE]
  · unfold frD
    rw [hn2, hn]
    have h5 := h4.2
    unfold onE at h5
    rw [Bool.or_eq_true, beq_iff_eq, beq_iff_eq] at h5
    by_cases e : eA es E = toD es d
    · rw [if_pos e, if_pos (by omega), e]
    · rw [if_neg e, if_neg (by omega)]
      exact h5.resolve_left e
  · rw [hn2]; exact h4.1
theorem perm_nxD {N : Nat} {es : List (Int × Int)} {xs : List Int} (g : IsG (N : Int) es) : PermN (nxD es xs) (2 * es.length) := by
  refine ⟨fun d hd => ?_, fun a b ha hb e => ?_⟩
  · obtain ⟨_, _, _, _, _, _, _, _, h⟩ := nxD_at (xs := xs) g hd
    omega
  · obtain ⟨i, j, h1, h2, h3, h4, h5, h6, h7⟩ := nxD_at (xs := xs) g ha
    obtain ⟨i', j', k1, k2, k3, k4, k5, k6, k7⟩ := nxD_at (xs := xs) g hb
    obtain ⟨t1, t2, t3⟩ := toD_in g ha
    obtain ⟨l1, l2, l3⟩ := onL_getD g t1
    rw [e] at h5 h6
    have hv : toD es a = toD es b := by rw [← h6, ← k6]
    rw [← hv] at k2 k3 k4 k5
    have hjj : j = j' := by
      have hj3 : j < 3 := by rw [h4]; exact Nat.mod_lt _ (by decide)
      have hj3' : j' < 3 := by rw [k4]; exact Nat.mod_lt _ (by decide)
      have e3 : (onL es (toD es a)).getD j 0 = (onL es (toD es a)).getD j' 0 := by rw [← h5, ← k5]
      rw [List.getD_eq_getElem?_getD, List.getD_eq_getElem?_getD, List.getElem?_eq_getElem (by omega), List.getElem?_eq_getElem (by omega)] at e3
      exact (List.getElem_inj l2).1 e3
    have hii : i = i' := by omega
    subst hii
    have hee : a / 2 = b / 2 := by rw [← h2, ← k2]
    have hok := g.1.2 (a / 2) t3
    unfold okEdge at hok
    unfold toD at hv
    rw [← hee] at hv
    by_cases ea : a % 2 = 0
    · by_cases eb : b % 2 = 0
      · omega
      · rw [if_pos ea, if_neg eb] at hv
        exact absurd hv.symm hok.2.2.2.2
    · by_cases eb : b % 2 = 0
      · rw [if_neg ea, if_pos eb] at hv
        exact absurd hv hok.2.2.2.2
      · omega

end Go.Proofs.Ytpadnliebimceaa

namespace Go.Proofs.Ytpadnliebimceaa
open Go.RowKit

/-- The marks once the first k numbers are done, and while the orbit of k is gone along: its first j numbers are marked too. -/
def mFL (nx : Nat → Nat) (n k : Nat) : List Bool := (List.range n).map (metF nx n k)
def mjF (nx : Nat → Nat) (n k j : Nat) : List Bool := (List.range n).map fun x => metF nx n k x || decide (x ∈ (List.range j).map (itN nx k))
/-- The edges of the first j directed edges of an orbit. -/
def feL (nx : Nat → Nat) (k j : Nat) : List Int := (List.range j).map fun i => ((itN nx k i / 2 : Nat) : Int)
def faceL (nx : Nat → Nat) (n k : Nat) : List (List Int) := (facN nx n k).map fun O => O.map fun x => ((x / 2 : Nat) : Int)
section
variable {nx : Nat → Nat} {n k j : Nat}
theorem mFL_len : (mFL nx n k).length = n := by simp [mFL]
theorem mjF_len : (mjF nx n k j).length = n := by simp [mjF]
theorem mFL_at {x : Nat} (hx : x < n) : eL (mFL nx n k) x = metF nx n k x := by
  rw [eL_lt (by rw [mFL_len]; exact hx)]
  simp [mFL]
theorem mjF_at {x : Nat} (hx : x < n) : eL (mjF nx n k j) x = (metF nx n k x || decide (x ∈ (List.range j).map (itN nx k))) := by
  rw [eL_lt (by rw [mjF_len]; exact hx)]
  simp only [mjF, List.getElem_map, List.getElem_range]
theorem boolF_ext {xs ys : List Bool} (h1 : xs.length = n) (h2 : ys.length = n) (h : ∀ x, x < n → eL xs x = eL ys x) : xs = ys := by
  apply List.ext_getElem (by omega)
  intro i h3 h4
  have := h i (by omega)
  rwa [eL_lt h3, eL_lt h4] at this
theorem mFL_zero : mFL nx n 0 = List.replicate n false := boolF_ext mFL_len List.length_replicate fun x hx => by
  rw [mFL_at hx, eL_lt (by rw [List.length_replicate]; exact hx)]
  simp [metF]
theorem mjF_zero : mjF nx n k 0 = mFL nx n k := boolF_ext mjF_len mFL_len fun x hx => by rw [mjF_at hx, mFL_at hx]; simp
theorem mjF_step (h : PermN nx n) (hk : k < n) : (mjF nx n k j).set (itN nx k j) true = mjF nx n k (j + 1) := boolF_ext (by rw [List.length_set]; exact mjF_len) mjF_len fun x hx => by
  rw [eL_set (by rw [mjF_len]; exact it_lt h hk j), mjF_at hx, mjF_at hx, List.range_succ, List.map_append]
  by_cases e : x = itN nx k j
  · rw [if_pos e, decide_eq_true (by rw [e]; simp), Bool.or_true]
  · rw [if_neg e, show decide (x ∈ (List.range j).map (itN nx k) ++ [j].map (itN nx k)) = decide (x ∈ (List.range j).map (itN nx k)) from decide_eq_decide.2 ⟨fun hh => (List.mem_append.1 hh).elim id (fun h2 => absurd (by simpa using h2) e), fun hh => List.mem_append_left _ hh⟩]
theorem mjF_end : mjF nx n k (perN nx n k) = mFL nx n (k + 1) := boolF_ext mjF_len mFL_len fun x hx => by
  rw [mjF_at hx, mFL_at hx, metF_succ]
  rfl
theorem mFL_old (h : PermN nx n) (hk : k < n) (hm : metF nx n k k = true) : mFL nx n (k + 1) = mFL nx n k := boolF_ext mFL_len mFL_len fun x hx => by rw [mFL_at hx, mFL_at hx, metF_old h hk hm]
theorem mjF_now (h : PermN nx n) (hk : k < n) (hm : metF nx n k k = false) (hj : j ≤ perN nx n k) : eL (mjF nx n k j) (itN nx k j) = decide (j = perN nx n k) := by
  have hp := per_spec h hk
  rw [mjF_at (it_lt h hk j), metF_new h hk hm ((orb_iff h hk _).2 ⟨j, rfl⟩), Bool.false_or]
  by_cases e : j = perN nx n k
  · rw [decide_eq_true e]
    refine decide_eq_true ?_
    rw [e, hp.2.2.1]
    exact List.mem_map.2 ⟨0, List.mem_range.2 (by omega), rfl⟩
  · rw [decide_eq_false e]
    refine decide_eq_false fun hin => ?_
    obtain ⟨i, hi, e2⟩ := List.mem_map.1 hin
    have hi := List.mem_range.1 hi
    exact it_diff h hk hi (by omega) e2
theorem feL_len : (feL nx k j).length = j := by simp [feL]
theorem feL_push : feL nx k (j + 1) = feL nx k j ++ [((itN nx k j / 2 : Nat) : Int)] := by
  unfold feL
  rw [List.range_succ, List.map_append]
  rfl
theorem feL_end : feL nx k (perN nx n k) = (orbN nx n k).map fun x => ((x / 2 : Nat) : Int) := by
  unfold feL orbN
  rw [List.map_map]
  rfl
theorem faceL_yes (hm : metF nx n k k = false) : faceL nx n (k + 1) = faceL nx n k ++ [feL nx k (perN nx n k)] := by
  unfold faceL
  rw [facN_yes hm, List.map_append, feL_end]
  rfl
theorem faceL_no (hm : metF nx n k k = true) : faceL nx n (k + 1) = faceL nx n k := by unfold faceL; rw [facN_no hm]
theorem faceL_len (nx : Nat → Nat) (n k : Nat) : (faceL nx n k).length ≤ k := by unfold faceL; rw [List.length_map]; exact facN_len nx n k
end

end Go.Proofs.Ytpadnliebimceaa
