/- What a joined edge that is the only one of its ends says about the ends at its vertices, and what the dot product takes from it. -/
import Derived.Test.YtfdlhdgmbjdhbaaCeH
import Derived.Test.YtfdlhdgmbjdhbaaRestA

/- Dot products as lists of edges: what the program takes out of the two graphs beside each other is what the model takes out of each. -/
namespace Go.Proofs.Ytfdlhdgmbjdhbaa
open Go.RowKit

/- The other ends of the edges at a vertex ascend. -/
theorem ord_step {s : Int} {es : List (Int × Int)} (g : IsG s es) : ∀ {i j : Nat}, i < j → j < es.length → eA es i < eA es j ∨ (eA es i = eA es j ∧ eB es i ≤ eB es j) := by
  intro i j hij hj
  induction j with
  | zero => omega
  | succ j ih =>
    have h := (g.2.2 (j + 1) hj).2 (by omega)
    rw [Nat.add_sub_cancel] at h
    unfold ltE at h
    rcases Nat.lt_or_ge i j with h1 | h1
    · have := ih h1 (by omega)
      omega
    · obtain rfl : i = j := by omega
      omega
theorem oth_asc {s : Int} {es : List (Int × Int)} (g : IsG s es) {v : Int} {i j : Nat} (hij : i < j) (hj : j < es.length) (oi : onE es v i = true) (oj : onE es v j = true) : othE es v i ≤ othE es v j := by
  have h := ord_step g hij hj
  have a1 := cut_asc g (show i < es.length by omega)
  have a2 := cut_asc g hj
  unfold onE at oi oj
  have oi : eA es i = v ∨ eB es i = v := by simpa using oi
  have oj : eA es j = v ∨ eB es j = v := by simpa using oj
  unfold othE
  omega
theorem exU_asc {s : Int} {es : List (Int × Int)} (g : IsG s es) {v : Int} (hv : 0 ≤ v ∧ v < s) (x : Int) : (exU es v x 3).Pairwise (fun a b => a ≤ b) := by
  have hl := onL_nth g hv
  have hp : (onL es v).Pairwise (fun a b => a < b) := List.Pairwise.filter _ List.pairwise_lt_range
  rw [hl] at hp
  have hq := List.pairwise_map.1 hp
  unfold exU
  refine List.pairwise_map.2 ?_
  have h2 := hq.filter (fun i => !decide ((nthO es v i : Int) = x))
  refine h2.imp_of_mem fun {a b} ha hb h => ?_
  have ha := List.mem_range.1 (List.mem_filter.1 ha).1
  have hb := List.mem_range.1 (List.mem_filter.1 hb).1
  have na := nth_in g hv ha
  have nb := nth_in g hv hb
  exact oth_asc g h nb.1 na.2.1 nb.2.1
theorem two_asc {L : List Int} (h2 : L.length = 2) (h : L.Pairwise (fun a b => a ≤ b)) : eI L 0 ≤ eI L 1 ∧ L = [eI L 0, eI L 1] := by
  match L, h2 with
  | [a, b], _ =>
    refine ⟨?_, rfl⟩
    have := List.rel_of_pairwise_cons h (show b ∈ [b] by simp)
    exact this

/- Two graphs beside each other. -/
theorem onL_beside {s t : Int} {xs ys : List (Int × Int)} (g1 : IsG s xs) {a : Int} (ha : 0 ≤ a ∧ a < t) : onL (xs ++ upE s ys) (s + a) = (onL ys a).map (xs.length + ·) := by
  unfold onL
  rw [List.length_append, upE_length, range_split, List.filter_append, List.filter_map]
  have a1 : (List.range xs.length).filter (onE (xs ++ upE s ys) (s + a)) = [] := by
    rw [List.filter_eq_nil_iff]
    intro i hi h
    have hi := List.mem_range.1 hi
    have h1 := ((onE_beside (s := s) (ys := ys) (s + a) i).1 hi).1
    have h2 := isG_pos g1 hi
    have h3 : onE xs (s + a) i = false := onE_far (s := s) (by omega) (by omega)
    rw [h3] at h1
    exact absurd (h.symm.trans h1) (by simp)
  have a2 : (List.range ys.length).filter ((onE (xs ++ upE s ys) (s + a)) ∘ (xs.length + ·)) = (List.range ys.length).filter (onE ys a) :=
    List.filter_congr fun i hi => ((onE_beside a i).2 (List.mem_range.1 hi)).1
  rw [a1, a2, List.nil_append]
theorem endL_beside {s t : Int} {xs ys : List (Int × Int)} (g1 : IsG s xs) {a : Int} (ha : 0 ≤ a ∧ a < t) (x y : Int) : endL (xs ++ upE s ys) (s + x) (s + y) (arF (xs ++ upE s ys) (s + a)) = (endL ys x y (arF ys a)).map (s + ·) := by
  rw [arF_eq, arF_eq, onL_beside g1 ha]
  unfold endL
  rw [List.map_map, List.filter_map, List.filter_map, List.map_map, List.map_map, List.map_map]
  have hm : ∀ i, i ∈ onL ys a → keepE (xs ++ upE s ys) (s + x) (s + y) (xs.length + i) = keepE ys x y i ∧ othE (xs ++ upE s ys) (s + a) (xs.length + i) = s + othE ys a i := fun i hi => by
    have hl := (onL_mem.1 hi).1
    have e := (eAB_append xs (upE s ys) (xs.length + i)).2 (by omega)
    rw [Nat.add_sub_cancel_left] at e
    have e2 := upE_at (s := s) hl
    refine ⟨?_, ((onE_beside a i).2 hl).2⟩
    unfold keepE
    rw [e.1, e.2, e2.1, e2.2]
    have q1 : (eA ys i + s == s + x) = (eA ys i == x) := by rw [Bool.eq_iff_iff]; simp only [beq_iff_eq]; omega
    have q2 : (eB ys i + s == s + y) = (eB ys i == y) := by rw [Bool.eq_iff_iff]; simp only [beq_iff_eq]; omega
    rw [q1, q2]
  have hf : (onL ys a).filter ((fun p : Nat × Int => keepE (xs ++ upE s ys) (s + x) (s + y) p.1) ∘ (fun i => (i, othE (xs ++ upE s ys) (s + a) i)) ∘ (xs.length + ·)) = (onL ys a).filter ((fun p : Nat × Int => keepE ys x y p.1) ∘ fun i => (i, othE ys a i)) :=
    List.filter_congr fun i hi => (hm i hi).1
  rw [hf]
  refine List.map_congr_left fun i hi => ?_
  exact (hm i (List.mem_filter.1 hi).1).2
theorem rest_beside (s : Int) {xs ys : List (Int × Int)} {e f : Nat} (he : e < xs.length) (hf : f < xs.length) : restE (xs ++ upE s ys) [(e : Int), (f : Int)] = restE xs [(e : Int), (f : Int)] ++ upE s ys := by
  unfold restE restU
  rw [List.length_append, upE_length, range_split, List.filter_append, List.map_append, List.filter_map, List.map_map]
  congr 1
  · refine List.map_congr_left fun i hi => ?_
    have hi := List.mem_range.1 (List.mem_filter.1 hi).1
    have e := (eAB_append xs (upE s ys) i).1 hi
    rw [e.1, e.2]
  · have h1 : (List.range ys.length).filter ((fun i => !outB [(e : Int), (f : Int)] i) ∘ (xs.length + ·)) = List.range ys.length := by
      rw [List.filter_eq_self]
      intro i _
      have n1 : ¬ ((xs.length + i : Nat) : Int) ∈ [(e : Int), (f : Int)] := fun h => by
        rcases List.mem_cons.1 h with h | h
        · omega
        · have := List.mem_singleton.1 h
          omega
      show (!outB [(e : Int), (f : Int)] (xs.length + i)) = true
      unfold outB
      rw [decide_eq_false n1]
      rfl
    rw [h1]
    have h2 : upE s ys = (List.range (upE s ys).length).map fun i => (eA (upE s ys) i, eB (upE s ys) i) := es_range _
    rw [upE_length] at h2
    refine Eq.trans ?_ h2.symm
    refine List.map_congr_left fun i hi => ?_
    have hi := List.mem_range.1 hi
    have e := (eAB_append xs (upE s ys) (xs.length + i)).2 (by omega)
    rw [Nat.add_sub_cancel_left] at e
    show (eA (xs ++ upE s ys) (xs.length + i), eB (xs ++ upE s ys) (xs.length + i)) = _
    rw [e.1, e.2]

/-- The dot product's edges as the model makes them. -/
def dotM (s : Int) (es : List (Int × Int)) (e f : Nat) (fs : List (Int × Int)) (a b : Int) (A B : List Int) : List (Int × Int) :=
  restE es [(e : Int), (f : Int)] ++ mdU s fs [a, b] fs.length ++ [(eA es e, s + numW (eI A 0) [a, b] 2), (eB es e, s + numW (eI A 1) [a, b] 2)] ++ [(eA es f, s + numW (eI B 0) [a, b] 2), (eB es f, s + numW (eI B 1) [a, b] 2)]
/-- And as the program puts them together. -/
def dotP (s : Int) (es : List (Int × Int)) (e f : Nat) (fs : List (Int × Int)) (A B : List Int) : List (Int × Int) :=
  restE (es ++ upE s fs) [(e : Int), (f : Int)] ++ pairL [eA es e, eB es e] (A.map (s + ·)) 2 ++ pairL [eA es f, eB es f] (B.map (s + ·)) 2

theorem numW_low {s a b x : Int} (ha : 0 ≤ a) (hb : 0 ≤ b) (hx : x < s) : numW x [s + a, s + b] 2 = x := by
  rw [numW_two, if_neg (by omega), if_neg (by omega)]
  omega
theorem numW_up {s a b x : Int} : numW (s + x) [s + a, s + b] 2 = s + numW x [a, b] 2 := by
  rw [numW_two, numW_two]
  have n1 : (s + a < s + x) = (a < x) := propext (by omega)
  have n2 : (s + b < s + x) = (b < x) := propext (by omega)
  simp only [n1, n2]
  omega
theorem outQ_low {s a b : Int} {p : Int × Int} (ha : 0 ≤ a) (hb : 0 ≤ b) (h1 : p.1 < s) (h2 : p.2 < s) : outQ [s + a, s + b] p = true := by
  have key : ∀ x : Int, x < s → ¬ x ∈ [s + a, s + b] := fun x hx h => by
    rcases List.mem_cons.1 h with h | h
    · omega
    · have := List.mem_singleton.1 h
      omega
  unfold outQ
  rw [decide_eq_false (key _ h1), decide_eq_false (key _ h2)]
  rfl
theorem dot_same {s t : Int} {es fs : List (Int × Int)} (g1 : IsG s es) (_ : IsG t fs) {e f : Nat} (he : e < es.length) (hf : f < es.length) {a b : Int} (ha : 0 ≤ a ∧ a < t) (hb : 0 ≤ b ∧ b < t) {A B : List Int} (hA : A.length = 2) (hB : B.length = 2)
    (hAo : ∀ i, i < 2 → ¬ eI A i ∈ [a, b]) (hBo : ∀ i, i < 2 → ¬ eI B i ∈ [a, b]) :
    outU (dotP s es e f fs A B) [s + a, s + b] (dotP s es e f fs A B).length = dotM s es e f fs a b A B := by
  rw [outU_flat]
  unfold dotP dotM
  rw [rest_beside s he hf, List.filter_append, List.filter_append, List.filter_append, List.map_append, List.map_append, List.map_append, mdU_flat]
  have hp := isG_pos g1 he
  have hq := isG_pos g1 hf
  have pr : ∀ (L : List Int) (x y : Int), L.length = 2 → (∀ i, i < 2 → ¬ eI L i ∈ [a, b]) → x < s → y < s → ((pairL [x, y] (L.map (s + ·)) 2).filter (outQ [s + a, s + b])).map (outM 0 [s + a, s + b]) = [(x, s + numW (eI L 0) [a, b] 2), (y, s + numW (eI L 1) [a, b] 2)] := fun L x y hL ho hx hy => by
    have h0 : eI (L.map (s + ·)) 0 = s + eI L 0 := by rw [eI_lt (by rw [List.length_map]; omega), eI_lt (by omega), List.getElem_map]
    have h1 : eI (L.map (s + ·)) 1 = s + eI L 1 := by rw [eI_lt (by rw [List.length_map]; omega), eI_lt (by omega), List.getElem_map]
    have hl : pairL [x, y] (L.map (s + ·)) 2 = [(x, s + eI L 0), (y, s + eI L 1)] := by
      show [(eI [x, y] 0, eI (L.map (s + ·)) 0), (eI [x, y] 1, eI (L.map (s + ·)) 1)] = _
      rw [h0, h1]
      rfl
    have hin : ∀ z : Int, z < s → ¬ z ∈ [s + a, s + b] := fun z hz h => by
      rcases List.mem_cons.1 h with h | h
      · omega
      · have := List.mem_singleton.1 h
        omega
    have hup : ∀ i, i < 2 → ¬ (s + eI L i) ∈ [s + a, s + b] := fun i hi h => ho i hi (by
      rcases List.mem_cons.1 h with h | h
      · rw [show eI L i = a by omega]; exact List.mem_cons_self ..
      · rw [show eI L i = b by have := List.mem_singleton.1 h; omega]; simp)
    rw [hl]
    have q0 : outQ [s + a, s + b] (x, s + eI L 0) = true := by unfold outQ; rw [decide_eq_false (hin x hx), decide_eq_false (hup 0 (by omega))]; rfl
    have q1 : outQ [s + a, s + b] (y, s + eI L 1) = true := by unfold outQ; rw [decide_eq_false (hin y hy), decide_eq_false (hup 1 (by omega))]; rfl
    rw [List.filter_cons_of_pos q0, List.filter_cons_of_pos q1]
    simp only [List.filter_nil, List.map_cons, List.map_nil, outM, List.length_cons, List.length_nil, Nat.zero_add, Nat.reduceAdd]
    rw [numW_up, numW_up, numW_low ha.1 hb.1 hx, numW_low ha.1 hb.1 hy, Int.zero_add, Int.zero_add, Int.zero_add, Int.zero_add]
  rw [pr A _ _ hA hAo hp.2.1 hp.2.2.2.1, pr B _ _ hB hBo hq.2.1 hq.2.2.2.1]
  congr 2
  congr 1
  · have hr : ∀ p, p ∈ restE es [(e : Int), (f : Int)] → p.1 < s ∧ p.2 < s := fun p hp => by
      unfold restE restU at hp
      obtain ⟨j, hj, e⟩ := List.mem_map.1 hp
      have := isG_pos g1 (List.mem_range.1 (List.mem_filter.1 hj).1)
      rw [← e]
      exact ⟨this.2.1, this.2.2.2.1⟩
    have h1 : (restE es [(e : Int), (f : Int)]).filter (outQ [s + a, s + b]) = restE es [(e : Int), (f : Int)] := List.filter_eq_self.2 fun p hp => outQ_low ha.1 hb.1 (hr p hp).1 (hr p hp).2
    rw [h1]
    have h2 : (restE es [(e : Int), (f : Int)]).map (outM 0 [s + a, s + b]) = (restE es [(e : Int), (f : Int)]).map id := List.map_congr_left fun p hp => by
      unfold outM
      simp only [List.length_cons, List.length_nil, Nat.zero_add, Nat.reduceAdd]
      rw [numW_low ha.1 hb.1 (hr p hp).1, numW_low ha.1 hb.1 (hr p hp).2, Int.zero_add, Int.zero_add]
      rfl
    rw [h2, List.map_id]
  · unfold upE
    rw [List.filter_map, List.map_map]
    have f1 : fs.filter (outQ [s + a, s + b] ∘ fun p => (p.1 + s, p.2 + s)) = fs.filter (outQ [a, b]) := List.filter_congr fun p _ => by
      have n1 : (p.1 + s = s + a) = (p.1 = a) := propext (by omega)
      have n2 : (p.2 + s = s + a) = (p.2 = a) := propext (by omega)
      have n3 : (p.1 + s = s + b) = (p.1 = b) := propext (by omega)
      have n4 : (p.2 + s = s + b) = (p.2 = b) := propext (by omega)
      unfold outQ
      simp [n1, n2, n3, n4]
    rw [f1]
    refine List.map_congr_left fun p _ => ?_
    show outM 0 [s + a, s + b] (p.1 + s, p.2 + s) = _
    unfold outM
    simp only [List.length_cons, List.length_nil, Nat.zero_add, Nat.reduceAdd]
    rw [Int.add_comm p.1 s, Int.add_comm p.2 s, numW_up, numW_up, Int.zero_add, Int.zero_add]

end Go.Proofs.Ytfdlhdgmbjdhbaa

namespace Go.Proofs.Ytfdlhdgmbjdhbaa
open Go.RowKit

theorem jf_one {es : List (Int × Int)} {x y : Int} {n : Nat} (h : jcU es x y n = 1) : ∃ j, j < n ∧ jfU es x y n = (j : Int) ∧ eA es j = x ∧ eB es j = y := by
  unfold jcU at h
  unfold jfU
  cases hc : (List.range n).find? (jnP es x y) with
  | none =>
    have h0 : (List.range n).filter (jnP es x y) = [] := List.filter_eq_nil_iff.2 fun i hi => List.find?_eq_none.1 hc i hi
    rw [h0] at h
    simp at h
  | some i =>
    have h1 := List.mem_of_find?_eq_some hc
    have h2 := List.find?_some hc
    unfold jnP at h2
    simp at h2
    exact ⟨i, List.mem_range.1 h1, rfl, h2.1, h2.2⟩
theorem filt_two (p : Nat → Bool) : ∀ l : List Nat, (l.filter p).length + (l.filter fun x => !p x).length = l.length
  | [] => rfl
  | a :: l => by
    have h := filt_two p l
    cases hp : p a <;> simp [hp] <;> omega
/-- The facts of the two vertices that an edge joins alone. -/
structure DotF (t : Int) (fs : List (Int × Int)) (a b x y : Int) (A B : List Int) (j : Nat) : Prop where
  lt : j < fs.length
  cnt : jcU fs x y fs.length = 1
  fst : jfU fs x y fs.length = (j : Int)
  exA : exU fs a (j : Int) 3 = A
  exB : exU fs b (j : Int) 3 = B
  enA : endL fs x y (arF fs a) = A
  enB : endL fs x y (arF fs b) = B
  lenA : A.length = 2
  lenB : B.length = 2
  ordA : eI A 0 ≤ eI A 1
  ordB : eI B 0 ≤ eI B 1
  inA : ∀ i, i < 2 → 0 ≤ eI A i ∧ eI A i < t
  inB : ∀ i, i < 2 → 0 ≤ eI B i ∧ eI B i < t
  outA : ∀ i, i < 2 → ¬ eI A i ∈ [a, b]
  outB : ∀ i, i < 2 → ¬ eI B i ∈ [a, b]
  ne : a ≠ b
  size : 6 ≤ fs.length
  left : ∀ f : Int, 1 ≤ (mdU f fs [a, b] fs.length).length
theorem dot_facts {t : Int} {fs : List (Int × Int)} (g : IsG t fs) {a b x y : Int} (ha : 0 ≤ a ∧ a < t) (hb : 0 ≤ b ∧ b < t) (hx : min a b = x) (hy : max a b = y) (h1 : jcU fs x y fs.length = 1) : ∃ A B j, DotF t fs a b x y A B j := by
  obtain ⟨j, hj, hf, jx, jy⟩ := jf_one h1
  have hab := isG_pos g hj
  rw [jx, jy] at hab
  have hne : a ≠ b := by omega
  have h1' : jcU fs (eA fs j) (eB fs j) fs.length = 1 := by rw [jx, jy]; exact h1
  have hva : a = eA fs j ∨ a = eB fs j := by omega
  have hvb : b = eA fs j ∨ b = eB fs j := by omega
  have oa : onE fs a j = true := by unfold onE; simp; omega
  have ob : onE fs b j = true := by unfold onE; simp; omega
  have one : ∀ v : Int, 0 ≤ v ∧ v < t → (v = eA fs j ∨ v = eB fs j) → onE fs v j = true → (exU fs v (j : Int) 3).length = 2 ∧ eI (exU fs v (j : Int) 3) 0 ≤ eI (exU fs v (j : Int) 3) 1 ∧ (∀ i, i < 2 → 0 ≤ eI (exU fs v (j : Int) 3) i ∧ eI (exU fs v (j : Int) 3) i < t) ∧ ∀ i, i < 2 → ¬ eI (exU fs v (j : Int) 3) i ∈ [a, b] := fun v hv hvj on => by
    obtain ⟨p, q, ⟨hp, op, np⟩, ⟨hq, oq, nq⟩, he⟩ := exU_two g hj hv on
    have k1 := cut_away g hj h1' hvj hp op np
    have k2 := cut_away g hj h1' hvj hq oq nq
    have hasc := (two_asc (by rw [he]; rfl) (exU_asc g hv (j : Int))).1
    rw [he] at hasc ⊢
    have m : ∀ z : Int, z ≠ eA fs j ∧ z ≠ eB fs j → ¬ z ∈ [a, b] := fun z hz h => by
      rcases List.mem_cons.1 h with h | h
      · omega
      · have := List.mem_singleton.1 h
        omega
    refine ⟨rfl, hasc, fun i hi => ?_, fun i hi => ?_⟩
    · rcases (by omega : i = 0 ∨ i = 1) with rfl | rfl
      · exact ⟨k1.1, k1.2.1⟩
      · exact ⟨k2.1, k2.2.1⟩
    · rcases (by omega : i = 0 ∨ i = 1) with rfl | rfl
      · exact m _ k1.2.2
      · exact m _ k2.2.2
  obtain ⟨la, sa, ia, na⟩ := one a ha hva oa
  obtain ⟨lb, sb, ib, nb⟩ := one b hb hvb ob
  have h6 : 6 ≤ fs.length := by
    have i0 := ia 0 (by omega)
    have n0 := na 0 (by omega)
    simp only [List.mem_cons, List.not_mem_nil, or_false, not_or] at n0
    have hk := g.1.1
    unfold okSize at hk
    omega
  have hL : ∀ f : Int, 1 ≤ (mdU f fs [a, b] fs.length).length := fun f => by
    have e3 : ∀ v : Int, 0 ≤ v ∧ v < t → ((List.range fs.length).filter (onE fs v)).length = 3 := fun v hv => by
      have h := atF_three g hv.1 hv.2
      rw [onL_at, List.length_map] at h
      exact h
    have eG : ∀ i, outG fs [a, b] i = !(onE fs a i || onE fs b i) := fun i => by
      unfold outG onE
      rw [Bool.eq_iff_iff]
      simp
      omega
    have c0 := filt_two (fun i => onE fs a i || onE fs b i) (List.range fs.length)
    have c1 := filt_two (onE fs a) ((List.range fs.length).filter fun i => onE fs a i || onE fs b i)
    have c2 := filt_two (onE fs a) ((List.range fs.length).filter (onE fs b))
    have d1 : ((List.range fs.length).filter fun i => onE fs a i || onE fs b i).filter (onE fs a) = (List.range fs.length).filter (onE fs a) := by
      rw [List.filter_filter]
      exact List.filter_congr fun i _ => by cases onE fs a i <;> rfl
    have d2 : (((List.range fs.length).filter fun i => onE fs a i || onE fs b i).filter fun i => !onE fs a i) = (((List.range fs.length).filter (onE fs b)).filter fun i => !onE fs a i) := by
      rw [List.filter_filter, List.filter_filter]
      exact List.filter_congr fun i _ => by cases onE fs a i <;> rfl
    have d3 : j ∈ ((List.range fs.length).filter (onE fs b)).filter (onE fs a) := List.mem_filter.2 ⟨List.mem_filter.2 ⟨List.mem_range.2 hj, ob⟩, oa⟩
    have d4 := List.length_pos_of_mem d3
    rw [d1, d2, e3 a ha] at c1
    rw [e3 b hb] at c2
    rw [List.length_range] at c0
    unfold mdU
    rw [List.length_map, List.filter_congr fun i _ => eG i]
    omega
  refine ⟨_, _, j, hj, h1, hf, rfl, rfl, ?_, ?_, la, lb, sa, sb, ia, ib, na, nb, hne, h6, hL⟩
  · exact endL_cut g ha hj jx jy h1
  · exact endL_cut g hb hj jx jy h1

theorem reads_twoF (w : World) (x y : Int) (t : TypeId) (g : Nat) (hg : g = w.heap.size) : ReadsI (w.alloc (.cells #[.int .i64 x, .int .i64 y] t)) g 0 [x, y] := fun i hi => by
  subst hg
  rcases (by simp at hi; omega : i = 0 ∨ i = 1) with rfl | rfl <;> simp [eI]
theorem edgs_twoF (s : Int) (es : List (Int × Int)) (e f : Int) : edgsCode s es [e, f] = if IsG s es then (if 0 ≤ e ∧ e < es.length ∧ 0 ≤ f ∧ f < es.length then 0 else 2) else 1 := by
  unfold edgsCode
  by_cases h : IsG s es
  · rw [if_pos h, if_pos h]
    by_cases h2 : 0 ≤ e ∧ e < es.length ∧ 0 ≤ f ∧ f < es.length
    · rw [if_pos h2, if_pos (fun i hi => by
        rcases (by simp at hi; omega : i = 0 ∨ i = 1) with rfl | rfl
        · exact ⟨h2.1, h2.2.1⟩
        · exact ⟨h2.2.2.1, h2.2.2.2⟩)]
    · rw [if_neg h2, if_neg (fun h3 => h2 (by
        have h4 := h3 0 (by simp)
        have h5 := h3 1 (by simp)
        exact ⟨h4.1, h4.2, h5.1, h5.2⟩))]
  · rw [if_neg h, if_neg h]

end Go.Proofs.Ytfdlhdgmbjdhbaa
