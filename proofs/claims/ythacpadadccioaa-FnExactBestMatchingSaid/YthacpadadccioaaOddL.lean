/- OddnessOf and BestMatching: both sides. -/
import Derived.Test.YthacpadadccioaaMtA
import Derived.Test.YthacpadadccioaaCycA
import Derived.Test.YthacpadadccioaaMtS
import Derived.Test.YthacpadadccioaaCycS
import Derived.Test.YthacpadadccioaaSeesM
import Derived.Deep.RegionWith
import Derived.Deep.DeepCutAuto
import Derived.Test.YthacpadadccioaaMtJ
import Derived.Test.YthacpadadccioaaCycI
import Derived.Test.YthacpadadccioaaMovesJ
import Derived.Test.YthacpadadccioaaRowN
import Derived.Test.YthacpadadccioaaRndH
import Derived.Sort.CutIn
import Derived.Test.YthacpadadccioaaImplG

/- Matchings are matchings; how many odd cycles one leaves; the best one of a list. No program is named here. -/
namespace Go.Proofs.Ythacpadadccioaa
open Go.RowKit

theorem eA_up {s : Int} {es : List (Int × Int)} (h : IsG s es) {i : Nat} : ∀ j, i ≤ j → j < es.length → eA es i ≤ eA es j
  | 0, h1, _ => by rw [show i = 0 by omega]; exact Int.le_refl _
  | j + 1, h1, h2 => by
    rcases Nat.lt_or_ge j i with h3 | h3
    · rw [show i = j + 1 by omega]; exact Int.le_refl _
    · have h4 := eA_up h j h3 (by omega)
      have h5 := (h.2.2 (j + 1) h2).2 (by omega)
      unfold ltE at h5
      rw [Nat.add_sub_cancel] at h5
      omega

/-- What the search knows of the edges that it has. -/
structure MtInv (N : Nat) (es : List (Int × Int)) (c : List Int) (ms : List Bool) : Prop where
  ml : ms.length = 20
  cs : ∀ i, i < c.length → ∃ E : Nat, eI c i = E ∧ E < es.length ∧ eA es E < lstF ms N
  st : isSetP es.length c
  ok : ∀ i, i < c.length → okMat es c i
  met : ∀ v : Nat, v < N → eL ms v = metV es c c.length v

theorem metV_app (es : List (Int × Int)) (c : List Int) (x : Int) (v : Int) : ∀ k, k ≤ c.length → metV es (c ++ [x]) k v = metV es c k v
  | 0, _ => rfl
  | k + 1, h => by
    rw [metV_succ, metV_succ, metV_app es c x v k (by omega), eI_append (by omega)]

theorem mtInv_step {N : Nat} {es : List (Int × Int)} (g : IsG N es) {c : List Int} {ms : List Bool} (h : MtInv N es c ms) {V U f : Nat} (hV : lstF ms N = V) (hVN : V < N) (hf : f ∈ onL es (V : Int)) (hU : othE es V f = U) (hm : eL ms U = false) : MtInv N es (c ++ [(f : Int)]) (markV ms V U) := by
  have hN20 : N ≤ 20 := by have := g.1.1.2.1; omega
  have hml := h.ml
  obtain ⟨hfl, hon⟩ := onL_mem.1 hf
  have hok := g.1.2 f hfl
  have hle := (g.2.2 f hfl).1
  unfold okEdge at hok
  unfold othE at hU
  unfold onE at hon
  rw [Bool.or_eq_true, beq_iff_eq, beq_iff_eq] at hon
  have hUN : U < N := by omega
  have hA : eA es f = V := by
    rcases hon with h1 | h1
    · exact h1
    · have hUV : U < V := by omega
      have := lstF_met ms N U (by omega)
      rw [this] at hm
      cases hm
  have hB : eB es f = U := by omega
  have hlst : V < lstF (markV ms V U) N := by
    rcases Nat.lt_or_ge V (lstF (markV ms V U) N) with h1 | h1
    · exact h1
    · have h2 := lstF_free (markV ms V U) N (by omega)
      rw [markV_at (by omega) (by omega)] at h2
      rcases Nat.lt_or_ge (lstF (markV ms V U) N) V with h3 | h3
      · have h4 := lstF_met ms N _ (show lstF (markV ms V U) N < lstF ms N by omega)
        rw [h4] at h2
        simp at h2
      · rw [show lstF (markV ms V U) N = V by omega] at h2
        simp at h2
  have hfree : eL ms V = false := by
    have := lstF_free ms N (by omega)
    rwa [hV] at this
  refine ⟨by rw [markV_len]; exact hml, ?_, ?_, ?_, ?_⟩
  · intro i hi
    rw [List.length_append, List.length_singleton] at hi
    rcases Nat.lt_or_ge i c.length with h1 | h1
    · obtain ⟨E, e1, e2, e3⟩ := h.cs i h1
      exact ⟨E, by rw [eI_append h1]; exact e1, e2, by omega⟩
    · rw [show i = c.length by omega]
      exact ⟨f, eI_last, hfl, by omega⟩
  · intro i hi
    rw [List.length_append, List.length_singleton] at hi
    rcases Nat.lt_or_ge i c.length with h1 | h1
    · have := h.st i h1
      unfold okSet at this ⊢
      rw [eI_append h1]
      refine ⟨this.1, fun h0 => ?_⟩
      rw [eI_append (by omega)]
      exact this.2 h0
    · rw [show i = c.length by omega]
      unfold okSet
      rw [eI_last]
      refine ⟨by omega, fun h0 => ?_⟩
      rw [eI_append (by omega)]
      obtain ⟨E, e1, e2, e3⟩ := h.cs (c.length - 1) (by omega)
      rw [e1]
      rcases Nat.lt_or_ge E f with h2 | h2
      · omega
      · have := eA_up g E h2 e2
        omega
  · intro i hi
    rw [List.length_append, List.length_singleton] at hi
    rcases Nat.lt_or_ge i c.length with h1 | h1
    · have := h.ok i h1
      unfold okMat at this ⊢
      rw [eI_append h1, metV_app _ _ _ _ _ (by omega), metV_app _ _ _ _ _ (by omega)]
      exact this
    · rw [show i = c.length by omega]
      unfold okMat
      rw [eI_last, Int.toNat_natCast, metV_app _ _ _ _ _ (Nat.le_refl _), metV_app _ _ _ _ _ (Nat.le_refl _), hA, hB, ← h.met V hVN, ← h.met U hUN]
      exact ⟨hfree, hm⟩
  · intro v hv
    rw [List.length_append, List.length_singleton, metV_succ, metV_app _ _ _ _ _ (Nat.le_refl _), eI_last, Int.toNat_natCast, ← h.met v hv, markV_at (by omega) (by omega)]
    unfold onE
    rw [hA, hB, Bool.or_assoc]
    congr 1
    by_cases h1 : v = V
    · subst h1; simp
    · by_cases h2 : v = U
      · subst h2; simp
      · have h3 : ¬ (V : Int) = v := by omega
        have h4 : ¬ (U : Int) = v := by omega
        simp [h1, h2, h3, h4]

theorem mtF_mat {N : Nat} {es : List (Int × Int)} (g : IsG N es) : ∀ (r : Nat) (c : List Int) (ms : List Bool) (x : List Int), MtInv N es c ms → unmF ms N = 2 * r → N = 2 * (c.length + r) → x ∈ mtF N es r c ms → isMatP N es x
  | 0, c, ms, x, h, hu, hN, hx => by
    rw [mtF_zero, List.mem_singleton] at hx
    subst hx
    exact ⟨by omega, h.st, h.ok⟩
  | r + 1, c, ms, x, h, hu, hN, hx => by
    have hN20 : N ≤ 20 := by have := g.1.1.2.1; omega
    have hml := h.ml
    rw [mtF_succ] at hx
    obtain ⟨f, hf, h2⟩ := List.mem_flatMap.1 hx
    obtain ⟨V, hV⟩ : ∃ V, lstF ms N = V := ⟨_, rfl⟩
    have hVN : V < N := by rw [← hV]; exact unmF_pos (by omega)
    rw [hV] at hf h2
    obtain ⟨hfl, hon⟩ := onL_mem.1 hf
    have hok := g.1.2 f hfl
    unfold okEdge at hok
    have hon' := hon
    unfold onE at hon'
    rw [Bool.or_eq_true, beq_iff_eq, beq_iff_eq] at hon'
    obtain ⟨U, hU⟩ : ∃ U : Nat, othE es V f = U := ⟨_, (Int.toNat_of_nonneg (by unfold othE; omega)).symm⟩
    have hUU := hU
    unfold othE at hUU
    cases hm : eL ms U with
    | true => rw [mtG_no hU hm] at h2; cases h2
    | false =>
      rw [mtG_yes hU hm] at h2
      have hfree : eL ms V = false := by
        have := lstF_free ms N (by omega)
        rwa [hV] at this
      have h3 := markV_unm (ms := ms) (v := V) (w := U) (N := N) (by omega) hVN (by omega) (by omega) hfree hm
      exact mtF_mat g r _ _ x (mtInv_step g h hV hVN hf hU hm) (by omega) (by rw [List.length_append, List.length_singleton]; omega) h2

theorem mtL_mat {N H : Nat} {es : List (Int × Int)} (g : IsG N es) (hH : N = 2 * H) {x : List Int} (hx : x ∈ mtL N es) : isMatP N es x := by
  have hN20 : N ≤ 20 := by have := g.1.1.2.1; omega
  unfold mtL at hx
  rw [show N / 2 = H by omega] at hx
  refine mtF_mat g H [] _ x ⟨by simp, fun i hi => by simp at hi, fun i hi => by simp at hi, fun i hi => by simp at hi, fun v hv => ?_⟩ (by rw [unmF_none N hN20]; exact hH) (by simpa using hH) hx
  unfold eL
  rw [List.getD_eq_getElem?_getD, List.getElem?_replicate, if_pos (by omega)]
  rfl

/-- Cycles are fewer than vertices. -/
theorem cyU_few {s : Int} {es : List (Int × Int)} {ok : Nat → Bool} {nx : Int → Nat → Nat} (G : TwoG s es ok nx) : ∀ (k : Nat) (B : Int), 0 ≤ B → k ≤ es.length → (∀ e, e < k → leadC es ok nx e = true → eA es e < B) → ((cyU es ok nx k).length : Int) ≤ B
  | 0, B, h0, _, _ => by simpa [cyU] using h0
  | k + 1, B, h0, hk, h => by
    cases hl : leadC es ok nx k with
    | false =>
      rw [cyU_no hl]
      exact cyU_few G k B h0 (by omega) fun e he h1 => h e (by omega) h1
    | true =>
      have hok := (G.g.1.2 k (by omega))
      unfold okEdge at hok
      have h1 := cyU_few G k (eA es k) hok.1 (by omega) fun e he h1 => by
        have h2 := eA_up G.g k (Nat.le_of_lt he) (by omega)
        have h3 : eA es e ≠ eA es k := fun h3 => by
          unfold leadC at h1 hl
          rw [Bool.and_eq_true] at h1 hl
          have h4 : metC es ok nx k k = true := (metC_iff G).2 ⟨e, he, h1.1, (WyIn.refl es ok e).next h1.1 hl.1 (v := eA es e) (by unfold onE; simp) (by unfold onE; simp [h3])⟩
          rw [h4] at hl
          exact absurd hl.2 (by decide)
        omega
      have h2 := h k (by omega) hl
      rw [cyU_yes hl, List.length_append, List.length_singleton]
      omega

/-- How many lists have an odd length. -/
def oddU (Ls : List (List Int)) : Nat := (Ls.map fun L => L.length % 2).sum
theorem oddU_append (A B : List (List Int)) : oddU (A ++ B) = oddU A + oddU B := by unfold oddU; rw [List.map_append, List.sum_append_nat]
theorem oddU_one (L : List Int) : oddU [L] = L.length % 2 := by simp [oddU]
theorem oddU_le : ∀ Ls : List (List Int), oddU Ls ≤ Ls.length
  | [] => by simp [oddU]
  | L :: Ls => by
    have h := oddU_le Ls
    have h2 := oddU_append [L] Ls
    rw [List.singleton_append, oddU_one] at h2
    rw [List.length_cons]
    omega
theorem oddU_pre {A B : List (List Int)} (h : A <+: B) : oddU A ≤ oddU B := by
  obtain ⟨t, rfl⟩ := h
  rw [oddU_append]
  omega

/-- How many odd cycles a matching leaves. -/
def oddM (es : List (Int × Int)) (xs : List Int) : Nat := oddU (cyU es (freeB es xs) (nxF es xs) es.length)
theorem oddM_lt {N : Nat} {es : List (Int × Int)} (g : IsG N es) {xs : List Int} (hm : isMatP N es xs) : oddM es xs < N := by
  have h1 := cyU_few (twoF g hm) es.length ((N : Int) - 1) (by have := g.1.1.1; omega) (Nat.le_refl _) fun e he _ => by
    have hok := g.1.2 e he
    unfold okEdge at hok
    have := (g.2.2 e he).1
    omega
  have h2 := oddU_le (cyU es (freeB es xs) (nxF es xs) es.length)
  have : 2 ≤ (N : Int) := g.1.1.1
  unfold oddM
  omega

/-- The first best one of a list. -/
def bstep (f : List Int → Nat) (s : List Int × Nat) (x : List Int) : List Int × Nat := if f x < s.2 then (x, f x) else s
def bestF (f : List Int → Nat) (N : Nat) (L : List (List Int)) : List Int × Nat := L.foldl (bstep f) ([], N)
theorem bestF_nil (f : List Int → Nat) (N : Nat) : bestF f N [] = ([], N) := rfl
theorem bestF_snoc (f : List Int → Nat) (N : Nat) (L : List (List Int)) (x : List Int) : bestF f N (L ++ [x]) = bstep f (bestF f N L) x := by
  unfold bestF
  rw [List.foldl_append]
  rfl
theorem bstep_yes {f : List Int → Nat} {s : List Int × Nat} {x : List Int} (h : f x < s.2) : bstep f s x = (x, f x) := if_pos h
theorem bstep_no {f : List Int → Nat} {s : List Int × Nat} {x : List Int} (h : ¬ f x < s.2) : bstep f s x = s := if_neg h
theorem bestF_zero {f : List Int → Nat} {N : Nat} {A B : List (List Int)} (hp : A <+: B) (h : (bestF f N A).2 = 0) : bestF f N B = bestF f N A := by
  obtain ⟨t, rfl⟩ := hp
  unfold bestF at h ⊢
  rw [List.foldl_append]
  generalize A.foldl (bstep f) ([], N) = s at h
  induction t generalizing s with
  | nil => rfl
  | cons x t ih =>
    rw [List.foldl_cons, bstep_no (by omega)]
    exact ih s h
theorem foldB_mem {f : List Int → Nat} : ∀ (L : List (List Int)) (s : List Int × Nat), L.foldl (bstep f) s = s ∨ ((L.foldl (bstep f) s).1 ∈ L ∧ (L.foldl (bstep f) s).2 = f (L.foldl (bstep f) s).1)
  | [], s => .inl rfl
  | x :: L, s => by
    rw [List.foldl_cons]
    rcases foldB_mem (f := f) L (bstep f s x) with h | ⟨h1, h2⟩
    · rw [h]
      by_cases hx : f x < s.2
      · rw [bstep_yes hx]
        exact .inr ⟨by simp, rfl⟩
      · rw [bstep_no hx]
        exact .inl rfl
    · exact .inr ⟨List.mem_cons_of_mem _ h1, h2⟩
theorem bestF_mem {f : List Int → Nat} {N : Nat} (L : List (List Int)) : (bestF f N L = ([], N)) ∨ ((bestF f N L).1 ∈ L ∧ (bestF f N L).2 = f (bestF f N L).1) := foldB_mem L _

end Go.Proofs.Ythacpadadccioaa

/- How many odd cycles matchings leave, and the best one, in the model: l04Odd, l04Best. -/
namespace Go.Proofs.Ythacpadadccioaa
open Go.RowKit

attribute [local go_sem] Oper.semAt_some

theorem oddU_take {Ls : List (List Int)} {k : Nat} (hk : k < Ls.length) : oddU (Ls.take (k + 1)) = oddU (Ls.take k) + (lI Ls k).length % 2 := by
  rw [List.take_add_one, List.getElem?_eq_getElem hk, Option.toList_some, oddU_append, oddU_one]
  unfold lI
  rw [List.getD_eq_getElem?_getD, List.getElem?_eq_getElem hk]
  rfl

theorem cyU_row {s : Int} {es : List (Int × Int)} {ok : Nat → Bool} {nx : Int → Nat → Nat} (G : TwoG s es ok nx) {k i : Nat} (hi : i < (cyU es ok nx k).length) : (lI (cyU es ok nx k) i).length ≤ es.length := by
  have h1 := List.mem_of_getElem? (lI_lt hi)
  generalize lI (cyU es ok nx k) i = y at h1
  unfold cyU at h1
  obtain ⟨e, he, rfl⟩ := List.mem_map.1 h1
  have h2 := (List.mem_filter.1 he).2
  unfold leadC at h2
  rw [Bool.and_eq_true] at h2
  have h3 := (cyK_spec G h2.1).2.1
  unfold cyL
  rw [cyP_len]
  exact h3

set_option maxRecDepth 100000 in
set_option maxHeartbeats 4000000 in
theorem sOdd_any (q : Option Addr) (m c : Nat) (Ls : List (List Int)) (w : World) (hm : m ≤ 60000) (hL : Ls.length = m) (hr : SeesL w q Ls) (hrow : ∀ i, i < m → (lI Ls i).length ≤ 1048576) :
    Calls Try.prog 118 #[.slice q m c] w fun e' w' => e' = .returned (.int .i64 (oddU Ls : Nat)) ∧ w = w' := by
  have HL := hid hL
  have Hr := hid hr
  have HRow := hid hrow
  have hm9 : m ≤ 9223372036854775807 := by omega
  obtain ⟨r, hR⟩ : ∃ r, oddU Ls = r := ⟨_, rfl⟩
  rw [hR]
  have HR := hid hR
  clear hL hr hrow hR
  go_enter Try.func118, Try.ntmps118
  go_wp2
  go_loop [4, 3] (fun i v => ∃ k T : Nat, k ≤ m ∧ i = .int .i64 k ∧ v = .int .i64 T ∧ T ≤ k ∧ Hid (T = oddU (Ls.take k))) (fun i _ => m - (intOf i).toNat)
  case atStart => exact ⟨0, 0, Nat.zero_le _, rfl, rfl, Nat.le_refl _, hid (by simp [oddU])⟩
  case round =>
    obtain ⟨k, T, hk, rfl, rfl, hTk, hT⟩ := hrel
    by_cases hlt : k < m
    · have hlt' : (k : Int) < (m : Int) := by omega
      have hkl : k < Ls.length := by rw [HL.out]; exact hlt
      obtain ⟨b1, o1, rfl, hrd⟩ : ∃ b1 o1, q = some ⟨b1, o1, none⟩ ∧ ReadsL w b1 o1 Ls := by
        rcases Hr.out with h | h
        · rw [h] at hkl; simp at hkl
        · exact h
      obtain ⟨q', c', hcell, hsee⟩ := hrd k hkl
      have hb1w := World.block_lt_of_cell? w _ hcell
      obtain ⟨l, hl⟩ : ∃ l, (lI Ls k).length = l := ⟨_, rfl⟩
      have hl9 := HRow.out k hlt
      rw [hl] at hcell hl9
      have HLl := hid hl
      have hmod : (l : Int) % 2 = ((l % 2 : Nat) : Int) := by omega
      obtain ⟨z, hz⟩ : ∃ z, l % 2 = z := ⟨_, rfl⟩
      have hz2 : z < 2 := by omega
      rw [hz] at hmod
      have HZ := hid hz
      clear hrd hsee hl hz
      go_wp2
      go_round
      case rel => exact ⟨k + 1, T + z, by omega, by go_num, by go_num, by omega, hid (by rw [oddU_take hkl, HLl.out, HZ.out, ← hT.out])⟩
      case measure => simp [intOf]; omega
    · obtain rfl : k = m := by omega
      have HE := hid (show r = T by rw [← HR.out, hT.out, List.take_of_length_le (by rw [HL.out]; exact Nat.le_refl _)])
      go_wp2
      go_ret
      rw [HE.out]
      exact ⟨rfl, rfl⟩

/-- The best one so far, as the model keeps it: −1 where there is none. -/
def bR (f : List Int → Nat) (N : Nat) (L : List (List Int)) (k : Nat) (xs : List Int) (v : Int) : Prop := (k = 0 ∧ xs = [] ∧ v = -1) ∨ (0 < k ∧ bestF f N (L.take k) = (xs, v.toNat) ∧ 0 ≤ v)
theorem bR_yes {f : List Int → Nat} {N : Nat} {L : List (List Int)} {k : Nat} {xs x : List Int} {v : Int} (h : bR f N L k xs v) (hk : L[k]? = some x) (hN : f x < N) (hv : v < 0 ∨ (f x : Int) < v) : bR f N L (k + 1) x (f x) := by
  refine .inr ⟨by omega, ?_, by omega⟩
  rw [List.take_add_one, hk, Option.toList_some, bestF_snoc, Int.toNat_natCast]
  refine bstep_yes ?_
  rcases h with ⟨rfl, _, _⟩ | ⟨_, h, h0⟩
  · rw [List.take_zero, bestF_nil]; exact hN
  · rw [h]; show f x < v.toNat; omega
theorem bR_no {f : List Int → Nat} {N : Nat} {L : List (List Int)} {k : Nat} {xs x : List Int} {v : Int} (h : bR f N L k xs v) (hk : L[k]? = some x) (hv : 0 ≤ v) (hv2 : v ≤ (f x : Int)) : bR f N L (k + 1) xs v := by
  rcases h with ⟨rfl, _, h⟩ | ⟨_, h, h0⟩
  · omega
  · refine .inr ⟨by omega, ?_, h0⟩
    rw [List.take_add_one, hk, Option.toList_some, bestF_snoc, bstep_no]
    · exact h
    · rw [h]; show ¬ f x < v.toNat; omega

theorem rowsM_at {w : World} {B cap : Nat} {q : Option Addr} {Ls : List (List Int)} {vals : List Value} (h : RowsM w B Ls cap q vals) {k : Nat} (hk : k < Ls.length) : ∃ b1 o1 g' c', q = some ⟨b1, o1, none⟩ ∧ w.cell? ⟨b1, o1 + k, none⟩ = some (.slice (some ⟨g', 0, none⟩) (lI Ls k).length c') ∧ B ≤ g' ∧ OwnI w g' c' (lI Ls k) := by
  obtain ⟨h1, h2, h3⟩ := h
  rcases h1.2 with ⟨_, h0⟩ | ⟨g, cap', cur, hv, hb, hg, hn, hm, hs, ht⟩
  · omega
  · injection hv with v1 v2 v3
    subst v1
    obtain ⟨g', c, e1, e2, e3⟩ := h3 k hk
    refine ⟨g, 0, g', c, rfl, ?_, e2, e3⟩
    rw [Nat.zero_add, cell_of_row w g _ cur _ _ hg]
    have h4 : (cur.toList.take (Ls.length * 1))[k]? = cur.toList[k]? := by rw [List.getElem?_take, if_pos (by omega)]
    rw [ht, e1] at h4
    rw [← Array.getElem?_toList, ← h4]
    rfl

set_option maxRecDepth 100000 in
set_option maxHeartbeats 8000000 in
theorem sBest_any (N H : Nat) (b off n c : Nat) (es : List (Int × Int)) (w : World) (hn : es.length = n) (hr : ReadsE w b off es) (g : IsG N es) (hH : N = 2 * H) :
    Calls Try.prog 68 #[.agg #[.int .i64 N, .slice (some ⟨b, off, none⟩) n c]] w fun e' w' => ∃ q m cap v xs, e' = .returned (.tuple #[.slice q m cap, .int .i64 v, .bool (decide (0 < (mtL N es).length))]) ∧ (mtL N es ≠ [] → FreshI w.heap.size w' q m cap xs) ∧ xs.length = m ∧ m ≤ 30 ∧ (mtL N es ≠ [] → bestF (oddM es) N (mtL N es) = (xs, v.toNat) ∧ 0 ≤ v) ∧ Below w.heap.size w w' := by
  have hn30 : n ≤ 30 := by have := isG_len g; omega
  have hN20 : N ≤ 20 := by have := g.1.1.2.1; omega
  have Hn := hid hn
  have Hr := hid hr
  have G := hid g
  have HH := hid hH
  have HLen := hid (show (mtL N es).length ≤ 60000 by
    have h := mtF_le g (N / 2) [] (List.replicate 20 false)
    have h2 := pow3_le (H := N / 2) (by have := g.1.1.2.1; omega)
    exact Nat.le_trans h (by omega))
  have HMat := hid (fun x (hx : x ∈ mtL N es) => mtL_mat g hH hx)
  obtain ⟨L, hL⟩ : ∃ L, mtL N es = L := ⟨_, rfl⟩
  have HAll := hid (fun w1 h1 => sAll_any N b off n c H es w1 g hn h1 hH)
  obtain ⟨T, hT⟩ : ∃ T, L.length = T := ⟨_, rfl⟩
  rw [hL] at HAll HLen HMat ⊢
  rw [hT] at HAll HLen ⊢
  have HT := hid hT
  have hT6 : T ≤ 60000 := HLen.out
  clear hn hr g hH hL hT
  go_enter Try.func68, Try.ntmps68
  go_wp2_with fail
  refine (HAll.out _ (Hr.out.on (on_alloc _ _))).mono ?_
  rintro e w3 ⟨q3, cap3, vals3, rfl, hr3, hb3⟩
  have HB3 := hid (bfrom (w := w) (on_alloc _ _) hb3)
  have HX3 := hid ((Box.new w N (some ⟨b, off, none⟩) n c 30).on hb3)
  have HS := hid hr3
  clear hr3 hb3
  go_wp2
  go_loopw [6, 7, 8] (fun u z i wr => ∃ (k mB cB : Nat) (qB : Option Addr) (v : Int) (xs : List Int), k ≤ T ∧ mB ≤ 30 ∧ v ≤ 20 ∧ -1 ≤ v ∧ u = .slice qB mB cB ∧ z = .int .i64 v ∧ i = .int .i64 k ∧ Hid ((0 < k → FreshI w.heap.size wr qB mB cB xs) ∧ xs.length = mB) ∧ Hid (bR (oddM es) N L k xs v) ∧ Hid (Below w3.heap.size w3 wr)) (fun _ _ i _ => T - (intOf i).toNat)
  case atStart => exact ⟨0, 0, _, _, -1, [], Nat.zero_le _, by omega, by omega, by omega, rfl, rfl, rfl, hid ⟨fun h => absurd h (by omega), rfl⟩, hid (.inl ⟨rfl, rfl, rfl⟩), hid (by first | exact Below.refl _ _ | exact on_alloc _ _)⟩
  case round =>
    obtain ⟨k, mB, cB, qB, v, xs, hk, hmB, hv1, hv2, rfl, rfl, rfl, hXs, hBR, hB⟩ := hrel
    have HXr := hid (HX3.out.on hB.out)
    have hxr := HXr.out.1
    have hyr := HXr.out.2
    have hzr := HXr.out.lt
    have HSr := hid (HS.out.kept fun i _ hl => hB.out.block i hl)
    by_cases hlt : k < T
    · have hlt' : (k : Int) < (T : Int) := by omega
      have hkl : k < L.length := by rw [HT.out]; exact hlt
      obtain ⟨b1, o1, g', c', rfl, hcell, hg', hown⟩ := rowsM_at HSr.out hkl
      have hsee := hown.sees
      have hb1w := World.block_lt_of_cell? wr _ hcell
      obtain ⟨x, hx⟩ : ∃ x, lI L k = x := ⟨_, rfl⟩
      have hxk : L[k]? = some x := by rw [← hx]; exact lI_lt hkl
      have hmt := HMat.out x (List.mem_of_getElem? hxk)
      rw [hx] at hcell hsee hown
      obtain ⟨l, hl⟩ : ∃ l, x.length = l := ⟨_, rfl⟩
      rw [hl] at hcell
      have hl10 : l ≤ 10 := by have := hmt.1; omega
      have HMt := hid hmt
      have HXk := hid hxk
      have HLl := hid hl
      have HSee := hid hsee
      have HOl := hid (oddM_lt G.out hmt)
      obtain ⟨z, hz⟩ : ∃ z, oddM es x = z := ⟨_, rfl⟩
      have hz20 : z < 20 := by have := HOl.out; omega
      have HZ := hid hz
      have HZ2 := hid (show oddU (cyU es (freeB es x) (nxF es x) n) = z by rw [← hz, ← Hn.out]; rfl)
      have hcl := cyU_len es (freeB es x) (nxF es x) n
      have HOw := hid hown
      have hgw : w.heap.size ≤ g' := by have h0 := hg'; rw [World.size_alloc] at h0; omega
      clear hsee hown hg' hx hxk hmt hl hz
      obtain ⟨wo, rfl⟩ : ∃ wo : World, wo = wr := ⟨_, rfl⟩
      have HRo := hid ((Hr.out.on HB3.out).on hB.out)
      go_upto_region 5 with fail
      go_cut [9] (fun u wx => u = .int .i64 z ∧ Hid (Below wo.heap.size wo wx))
      case first =>
        go_region_with (first
          | (go_at_call 119; refine (sCyclesL_any N b off n c (some ⟨g', 0, none⟩) l c' es x _ Hn.out (HRo.out.on (Below.refl _ _).drew) G.out HLl.out (by omega) (HSee.out.on (Below.refl _ _).drew) HMt.out).mono ?_; rintro e' w4 ⟨q4, cap4, vals4, rfl, hr4, hb4⟩; have hb4' : Below wo.heap.size wo w4 := bfrom (Below.refl _ _).drew hb4; have HS4 := hid hr4.seesL; clear hr4)
          | (go_at_call 118; refine (sOdd_any _ _ _ _ _ (by omega) rfl HS4.out (fun i hi => Nat.le_trans (cyU_row (twoF G.out HMt.out) hi) (by have := Hn.out; omega))).mono ?_; rw [HZ2.out]; rintro e' w5 ⟨rfl, rfl⟩))
        all_goals
          go_wp2_with fail
          go_meet
          exact ⟨by first | rfl | simp, hid (by first | exact hb4' | exact bdn.mpr hb4')⟩
      case rest =>
      obtain ⟨rfl, hcb⟩ := hcut
      obtain ⟨w6, rfl⟩ : ∃ w6, w6 = wc := ⟨_, rfl⟩
      have HB6 := hid (hB.out.trans (hcb.out.mono hB.out.size))
      have hc6 := (hcb.out.block b1 hb1w)
      have hcell6 : w6.cell? ⟨b1, o1 + k, none⟩ = some (.slice (some ⟨g', 0, none⟩) l c') := (hcb.out.cell (p := ⟨b1, o1 + k, none⟩) hb1w).trans hcell
      have hb16 := World.block_lt_of_cell? w6 _ hcell6
      have HOw6 := hid (HOw.out.on hcb.out)
      have HCb := hid hcb.out
      have hlen := hXs.out.2
      clear hcb hxr hyr hzr hcell hb1w hc6
      have take : (v < 0 ∨ (z : Int) < v) → bR (oddM es) N L (k + 1) x z := fun h => by
        have h1 := bR_yes hBR.out HXk.out HOl.out (by rw [HZ.out]; exact h)
        rwa [HZ.out] at h1
      have HTake := hid take
      have leave : 0 ≤ v → v ≤ (z : Int) → bR (oddM es) N L (k + 1) xs v := fun h h2 => bR_no hBR.out HXk.out h (by rw [HZ.out]; exact h2)
      have HLeave := hid leave
      clear take leave
      by_cases hv0 : v < 0
      · go_wp2
        go_roundw
        case rel => exact ⟨k + 1, l, c', some ⟨g', 0, none⟩, z, x, by omega, by omega, by omega, by omega, rfl, rfl, by go_num, hid ⟨fun _ => FreshI.of_own HOw6.out HLl.out hgw, HLl.out⟩, hid (HTake.out (.inl hv0)), HB6⟩
        case measure => simp [intOf]; omega
      · by_cases hzv : (z : Int) < v
        · go_wp2
          go_roundw
          case rel => exact ⟨k + 1, l, c', some ⟨g', 0, none⟩, z, x, by omega, by omega, by omega, by omega, rfl, rfl, by go_num, hid ⟨fun _ => FreshI.of_own HOw6.out HLl.out hgw, HLl.out⟩, hid (HTake.out (.inr hzv)), HB6⟩
          case measure => simp [intOf]; omega
        · go_wp2
          go_roundw
          case rel => exact ⟨k + 1, mB, cB, qB, v, xs, by omega, by omega, by omega, by omega, rfl, rfl, by go_num, hid ⟨fun _ => (hXs.out.1 (by rcases hBR.out with ⟨_, _, h⟩ | ⟨h, _, _⟩ <;> omega)).on HCb.out, hlen⟩, hid (HLeave.out (by omega) (by omega)), HB6⟩
          case measure => simp [intOf]; omega
    · obtain rfl : k = T := by omega
      have hfin : L ≠ [] → bestF (oddM es) N L = (xs, v.toNat) ∧ 0 ≤ v := fun h => by
        rcases hBR.out with ⟨h0, _, _⟩ | ⟨_, h1, h2⟩
        · exact absurd (List.eq_nil_of_length_eq_zero (by rw [HT.out]; exact h0)) h
        · rw [List.take_of_length_le (by rw [HT.out]; exact Nat.le_refl _)] at h1
          exact ⟨h1, h2⟩
      have HFin := hid hfin
      clear hfin
      go_wp2
      go_ret3
      exact ⟨qB, mB, cB, v, xs, by simp, fun h => hXs.out.1 (by have h1 := List.length_pos_iff.2 h; rwa [HT.out] at h1), hXs.out.2, hmB, HFin.out, bfrom HB3.out hB.out⟩

end Go.Proofs.Ythacpadadccioaa

/- The best matching, in the program: bestOf. -/
namespace Go.Proofs.Ythacpadadccioaa
open Go.RowKit Go.Shelf

attribute [local go_sem] Oper.semAt_some

theorem three_leO {H : Nat} (hH : H ≤ 10) : 3 ^ H ≤ 59049 := Nat.le_trans (Nat.pow_le_pow_right (by omega) hH) (by decide)

theorem cyU_grow (es : List (Int × Int)) (ok : Nat → Bool) (nx : Int → Nat → Nat) (k : Nat) : ∀ j, cyU es ok nx k <+: cyU es ok nx (k + j)
  | 0 => List.prefix_refl _
  | j + 1 => by
    refine (cyU_grow es ok nx k j).trans ?_
    cases h : leadC es ok nx (k + j)
    · rw [show k + (j + 1) = k + j + 1 by omega, cyU_no h]; exact List.prefix_refl _
    · rw [show k + (j + 1) = k + j + 1 by omega, cyU_yes h]; exact List.prefix_append _ _
/-- A row under the moves of a search. -/
theorem rowO_moved {X Y : World} {A gc ga k : Nat} {u : Value} {xs : List Value} (h : X.ownsRow (A + 2) 2 1 u k xs) (hm : MvS A gc ga X Y) (hgc : gc < A + 2) (hga : ga < A + 2) : Y.ownsRow (A + 2) 2 1 u k xs := by
  refine ⟨h.1, ?_⟩
  rcases h.2 with hn | ⟨g, c, cur, hv, hb, hg, r⟩
  · exact .inl hn
  · exact .inr ⟨g, c, cur, hv, hb, (hm.2 g cur _ _ (by omega) (by omega) (by omega) hg (by decide)).trans hg, r⟩
theorem rowO_on {X Y : World} {A k : Nat} {u : Value} {xs : List Value} (h : X.ownsRow A 2 1 u k xs) (hb : Below X.heap.size X Y) : Y.ownsRow A 2 1 u k xs := by
  refine ⟨h.1, ?_⟩
  rcases h.2 with hn | ⟨g, c, cur, hv, hg, hc, r⟩
  · exact .inl hn
  · exact .inr ⟨g, c, cur, hv, hg, (hb.block g (Array.getElem?_eq_some_iff.1 hc).1).trans hc, r⟩

theorem iLeft_funcO (s : Int) (p ps : Option Addr) (n c m f0 : Nat) (w : World) :
    Calls Try.prog 120 #[.agg #[.int .i64 s, .slice p n c], .slice ps m f0] w fun e w' => e = .returned (.func (.func 149) #[] #[.pointer (some ⟨w.heap.size, 0, none⟩), .pointer (some ⟨w.heap.size + 1, 0, none⟩)]) ∧ w' = (w.alloc (.cells #[.int .i64 s, .slice p n c] 30)).alloc (.cells #[.slice ps m f0] 44) := by
  go_enter Try.func120, Try.ntmps120
  go_wp2
  go_ret
  exact ⟨rfl, rfl⟩
theorem seesO_putObj {W : World} {q : Option Addr} {xs : List Int} {l : Nat} {o o' : Obj} (h : SeesI W q xs) (hl : W.heap[l]? = some o) (ho : o.isCells = false) : SeesI (W.putObj l o') q xs := by
  rcases h with h | ⟨b, off, hq, hr⟩
  · exact .inl h
  · refine .inr ⟨b, off, hq, fun i hi => ?_⟩
    have h1 := hr i hi
    have hne : b ≠ l := fun e => by
      subst e
      unfold World.cell? at h1
      rw [hl] at h1
      cases o <;> simp [Obj.isCells] at ho h1
    rw [← h1]
    exact World.cell?_of_block (w := W) (World.putObj_heap_other hne)

theorem keepsO_of_below {B : Nat} {W W' : World} (h : Below W.heap.size W W') : KeepsFrom B W W' := ⟨h.size, fun i _ _ hi _ => (h.block i (Array.getElem?_eq_some_iff.1 hi).1).trans hi⟩

def bxs (N : Nat) (es : List (Int × Int)) (pre : List (List Int)) : List Int := (bestF (oddM es) N pre).1
def bvl (N : Nat) (es : List (Int × Int)) (pre : List (List Int)) : Nat := (bestF (oddM es) N pre).2
def lsO (pre : List CyX) : List (List Int) := pre.map fun x => x.2.2
theorem lsO_snoc (pre : List CyX) (x : CyX) : lsO (pre ++ [x]) = lsO pre ++ [x.2.2] := by simp [lsO]

set_option maxRecDepth 100000 in
set_option maxHeartbeats 16000000 in
theorem iBest_any (N H b off n c : Nat) (es : List (Int × Int)) (w : World) (hn : es.length = n) (hr : ReadsE w b off es) (g : IsG N es) (hH : N = 2 * H) :
    Calls Try.prog 69 #[.agg #[.int .i64 N, .slice (some ⟨b, off, none⟩) n c]] w fun e' w' => ∃ q cap, e' = .returned (.tuple #[.slice q (bestF (oddM es) N (mtL N es)).1.length cap, .int .i64 ((bestF (oddM es) N (mtL N es)).2 : Nat)]) ∧ FreshI w.heap.size w' q (bestF (oddM es) N (mtL N es)).1.length cap (bestF (oddM es) N (mtL N es)).1 ∧ Below w.heap.size w w' := by
  have hN20 : N ≤ 20 := by have := g.1.1.2.1; omega
  have hn30 : n ≤ 30 := by have := isG_len g; omega
  have hbl : b < w.heap.size := reads_lt hr (by have := g.1.1.2.2.2; have := g.1.1.1; omega)
  have Hn := hid hn
  have Hr := hid hr
  have G := hid g
  have HH := hid hH
  have HMat := hid (fun x (hx : x ∈ mtL N es) => mtL_mat g hH hx)
  clear hn hr g hH
  refine (callsIn_wide (n := 6)).1 ?_
  refine callsIn_of_wp_marks Try.func69 rfl trivial ?_ rfl
  simp only [Try.ntmps69, List.size_toArray, List.length_cons, List.length_nil, Nat.reduceAdd, Nat.reduceSub, Array.replicate_succ, Array.replicate_zero, List.push_toArray, List.append_toArray, List.nil_append, List.cons_append]
  gi_upto_region 1 with (fail)
  refine wpIn_scope_straight ?_
  gi_wp2
  refine wpIn_label ?_
  gi_wp2_with (refine ⟨trivial, ?_⟩; gi_at_call 62; refine (callsIn_wide.2 (iMatchings_func _ _ _ _ _)).mono ?_; rintro e w' ⟨rfl, rfl⟩)
  obtain ⟨w1, hw1⟩ : ∃ w1, w1 = w.alloc (.cells #[.int .i64 N, .slice (some ⟨b, off, none⟩) n c] 30) := ⟨_, rfl⟩
  have hz1 : w1.heap.size = w.heap.size + 1 := by rw [hw1]; simp
  have HX1 := hid (show Box w1 w.heap.size N (some ⟨b, off, none⟩) n c by rw [hw1]; exact Box.new w N (some ⟨b, off, none⟩) n c 30)
  have HB1 := hid (show Below w.heap.size w w1 by rw [hw1]; exact on_alloc _ _)
  rw [← hw1]
  clear hw1
  obtain ⟨w6, hw6⟩ : ∃ w6, w6 = ((((w1.alloc (.cells #[.slice none 0 0] 44)).alloc (.cells #[.int .i64 N] 2)).alloc (.cells #[.int .i64 N, .slice (some ⟨b, off, none⟩) n c] 30)).alloc (.cells #[.int .i64 N, .slice (some ⟨b, off, none⟩) n c] 30)).alloc (.cells metZ 117) := ⟨_, rfl⟩
  have HZ6 := hid (show w6.heap.size = w.heap.size + 6 by rw [hw6]; simp; omega)
  have HB6 := hid (show Below w1.heap.size w1 w6 by rw [hw6]; exact bfrom (bfrom (bfrom (bfrom (on_alloc _ _) (on_alloc _ _)) (on_alloc _ _)) (on_alloc _ _)) (on_alloc _ _))
  have HP6 := hid (show Boxed w6 (w.heap.size + 1) 44 (.slice none 0 0) by rw [hw6]; exact ((((boxedN_at _ _ _ _ (by omega)).alloc _).alloc _).alloc _).alloc _)
  have HQ6 := hid (show Boxed w6 (w.heap.size + 2) 2 (.int .i64 N) by rw [hw6]; exact (((boxedN_at _ _ _ _ (by simp; omega)).alloc _).alloc _).alloc _)
  have hG6 : w6.heap[w.heap.size + 4]? = some (.cells #[.int .i64 N, .slice (some ⟨b, off, none⟩) n c] 30 (0, 0)) := by
    rw [hw6]
    have h := World.alloc_heap_new (((w1.alloc (.cells #[.slice none 0 0] 44)).alloc (.cells #[.int .i64 N] 2)).alloc (.cells #[.int .i64 N, .slice (some ⟨b, off, none⟩) n c] 30)) (.cells #[.int .i64 N, .slice (some ⟨b, off, none⟩) n c] 30)
    simp only [World.size_alloc, hz1] at h
    exact ((on_alloc _ _).block _ (by simp; omega)).trans h
  have hM6 : w6.heap[w.heap.size + 5]? = some (.cells metZ 117 (0, 0)) := by
    rw [hw6]
    have h := World.alloc_heap_new ((((w1.alloc (.cells #[.slice none 0 0] 44)).alloc (.cells #[.int .i64 N] 2)).alloc (.cells #[.int .i64 N, .slice (some ⟨b, off, none⟩) n c] 30)).alloc (.cells #[.int .i64 N, .slice (some ⟨b, off, none⟩) n c] 30)) (.cells metZ 117)
    simp only [World.size_alloc, hz1] at h
    exact h
  rw [← hw6]
  clear hw6
  have hz6 := HZ6.out
  obtain ⟨w0, hw0⟩ : ∃ w0, w0 = w.heap.size := ⟨_, rfl⟩
  have hLL : mtF N es H [] (List.replicate 20 false) = mtL N es := by unfold mtL; rw [show N / 2 = H by have := HH.out; omega]
  have HLL := hid hLL
  have hN2 : 0 < N := by have := G.out.1.1.1; omega
  have hH10 : H ≤ 10 := by have := HH.out; omega
  have hH0 : 0 < H := by have := HH.out; omega
  have hp3 : 3 ^ H ≤ 59049 := three_leO hH10
  clear hLL hw0
  refine rangeFunc_movesKH (n := 6) rfl (by omega) (gf := 147) (lb := #[.pointer (some ⟨w.heap.size + 5, 0, none⟩), .pointer (some ⟨w.heap.size + 4, 0, none⟩)]) rfl trivial (enters_of Try.func147 (by kernel_rfl) rfl) (A := w.heap.size + 8) (by omega)
    (mt_movesZ (isMatP N es) 4 w1.heap.size (w.heap.size + 8) (w.heap.size + 4) (w.heap.size + 5) b off n c N H H es (List.replicate 20 false) _ (by omega) (by omega) hG6 hM6 G.out Hn.out (by omega) ((Hr.out.on HB1.out).on HB6.out) (by simp) (by rw [unmF_none N hN20]; exact HH.out) HH.out (Nat.le_refl _) (fun x hx => HMat.out x (by rw [← HLL.out]; exact hx)))
    (fun h k => h.trans k)
    (fun W l o o' h1 h2 hl ho => ⟨⟨rfl, rfl, rfl, by simp [World.putObj], fun i hi _ => World.putObj_heap_other (by omega)⟩, by simp [World.putObj], fun i hi _ _ => World.putObj_heap_other (by omega)⟩)
    (fun h k => h.trans k)
    (fun W l o o' h1 h2 hl ho => ⟨by simp [World.putObj], fun i hi _ _ => World.putObj_heap_other (by omega)⟩)
    (fun Y Z i o h h1 h2 ho => (h.1.same i (by omega) (Array.getElem?_eq_some_iff.1 ho).1).trans ho) (fun Y Z h => h.1.size)
    (fun x W l o o' h h1 h2 hl ho => ⟨⟨h.1.1.keep (World.putObj_heap_other (by omega)), h.1.2.1, by simpa [World.putObj] using h.1.2.2⟩, h.2⟩) (Below.refl _ _) (fun _ => rfl)
    (fun (pre : List (List Int)) W => (∃ u, Boxed W (w.heap.size + 1) 44 u ∧ W.ownsRow (w.heap.size + 8 + 2) 2 1 u (bxs N es pre).length (intVals (bxs N es pre)) ∧ True) ∧ Boxed W (w.heap.size + 2) 2 (.int .i64 (bvl N es pre : Nat)) ∧ Below w1.heap.size w1 W ∧ 0 < bvl N es pre)
    (fun c' pre W => (∃ u, Boxed W (w.heap.size + 1) 44 u ∧ W.ownsRow (w.heap.size + 8 + 2) 2 1 u (bxs N es pre).length (intVals (bxs N es pre)) ∧ True) ∧ Boxed W (w.heap.size + 2) 2 (.int .i64 (bvl N es pre : Nat)) ∧ Below w1.heap.size w1 W ∧ (c' = .exit 0 ∧ bvl N es pre = 0))
    (OwnFrom.and (Own.from (holdsRow_own (w.heap.size + 8 + 2) (w.heap.size + 1) 44 2 1 (fun (pre : List (List Int)) => (bxs N es pre).length) (fun (pre : List (List Int)) => intVals (bxs N es pre)) (fun _ _ => True)) _) (OwnFrom.and (Own.from (boxed_own _ _ (fun (pre : List (List Int)) => Value.int .i64 (bvl N es pre : Nat))) _) (OwnFrom.and (ownFrom_below (Nat.le_refl _) (by omega)) (ownFrom_pure _ (fun (pre : List (List Int)) => 0 < bvl N es pre)))))
    (fun c' => OwnFrom.and (Own.from (holdsRow_own (w.heap.size + 8 + 2) (w.heap.size + 1) 44 2 1 (fun (pre : List (List Int)) => (bxs N es pre).length) (fun (pre : List (List Int)) => intVals (bxs N es pre)) (fun _ _ => True)) _) (OwnFrom.and (Own.from (boxed_own _ _ (fun (pre : List (List Int)) => Value.int .i64 (bvl N es pre : Nat))) _) (OwnFrom.and (ownFrom_below (Nat.le_refl _) (by omega)) (ownFrom_pure _ (fun (pre : List (List Int)) => c' = .exit 0 ∧ bvl N es pre = 0)))))
    (fun s Y Z h hm => by
      obtain ⟨⟨u, hu, hrow, _⟩, h2, h3, h4⟩ := h
      exact ⟨⟨u, boxN_moved hu hm.1 (by omega), rowO_moved hrow hm (by omega) (by omega), trivial⟩, boxN_moved h2 hm.1 (by omega), h3.trans (hm.1.below (fun i hi => by omega) h3.size), h4⟩)
    (fun c' s Y Z h hm => by
      obtain ⟨⟨u, hu, hrow, _⟩, h2, h3, h4⟩ := h
      exact ⟨⟨u, boxN_moved hu hm.1 (by omega), rowO_moved hrow hm (by omega) (by omega), trivial⟩, boxN_moved h2 hm.1 (by omega), h3.trans (hm.1.below (fun i hi => by omega) h3.size), h4⟩)
    ⟨⟨_, HP6.out, World.ownsRow_nil _ _ _ _, trivial⟩, HQ6.out, HB6.out, hN2⟩
    ?a1 ?assign ?body ?done ?stop
  case assign =>
    intro l x W K hK
    gi_wp2
    exact hK
  case body =>
    rintro l pre x W hl1 hl2 ⟨r, hr⟩ ⟨⟨u, hu, hrow, _⟩, hf, hB, hpos⟩ ⟨⟨hO, hxl, hxz⟩, hmt⟩ hA hlt
    have HU := hid hu
    have HRow := hid hrow
    have HF := hid hf
    have HBW := hid hB
    have HRr := hid hr
    have HXO := hid hO
    have HMt := hid hmt
    have HXl := hid hxl
    obtain ⟨B0, hB0⟩ : ∃ B0, bvl N es pre = B0 := ⟨_, rfl⟩
    have HB0 := hid hB0
    rw [hB0] at hpos HF
    have hxx := (HX1.out.on hB).1
    have hxy := (HX1.out.on hB).2
    have hxlt := (HX1.out.on hB).lt
    have hzW := hB.size
    clear hu hrow hf hB hr hO hmt hxl hB0
    gi_wp2
    refine ⟨trivial, ?_⟩
    refine (callsIn_wide.2 (iLeft_funcO _ _ _ _ _ _ _ _)).mono ?_
    rintro e w' ⟨rfl, rfl⟩
    gi_wp2
    obtain ⟨w4, hw4⟩ : ∃ w4, w4 = ((W.alloc (.cells #[.int .i64 0] 2)).alloc (.cells #[.int .i64 N, .slice (some ⟨b, off, none⟩) n c] 30)).alloc (.cells #[.slice (some ⟨w.heap.size + 8 + 1, 0, none⟩) H H] 44) := ⟨_, rfl⟩
    have hq4 : Boxed w4 W.heap.size 2 (.int .i64 0) := by rw [hw4]; exact ((boxedN_at _ _ _ _ rfl).alloc _).alloc _
    have hg4 : Box w4 (W.heap.size + 1) N (some ⟨b, off, none⟩) n c := by
      rw [hw4]
      have h := (Box.new (W.alloc (.cells #[.int .i64 0] 2)) N (some ⟨b, off, none⟩) n c 30).on (on_alloc _ (.cells #[.slice (some ⟨w.heap.size + 8 + 1, 0, none⟩) H H] 44))
      rwa [World.size_alloc] at h
    have hl4 : Boxed w4 (W.heap.size + 2) 44 (.slice (some ⟨w.heap.size + 8 + 1, 0, none⟩) H H) := by rw [hw4]; exact boxedN_at _ _ _ _ (by simp)
    have hz4 : w4.heap.size = W.heap.size + 3 := by rw [hw4]; simp
    have hb4 : Below W.heap.size W w4 := by rw [hw4]; exact bfrom (bfrom (on_alloc _ _) (on_alloc _ _)) (on_alloc _ _)
    rw [← hw4]
    clear hw4
    have HB4 := hid hb4
    have hcf4 := ((boxN_on HF.out hb4)).cell
    have hrx4 : SeesI w4 (some ⟨w.heap.size + 8 + 1, 0, none⟩) x := .inr ⟨_, _, rfl, (HXO.out.on hb4).reads⟩
    have hr4 : ReadsE w4 b off es := ((Hr.out.on HB1.out).on HBW.out).on hb4
    obtain ⟨CU, hCU⟩ : ∃ CU, cyU es (freeB es x) (nxF es x) = CU := ⟨_, rfl⟩
    have HCU := hid hCU
    have hCL : (CU n).length ≤ 30 := by rw [← hCU]; have := cyU_len es (freeB es x) (nxF es x) n; omega
    have hCM := cycles_moves 2 W.heap.size (W.heap.size + 4) (W.heap.size + 1) (W.heap.size + 2) N b off n c H H (some ⟨w.heap.size + 8 + 1, 0, none⟩) es x w4 (by omega) (by omega) (by omega) (by omega) Hn.out (by omega) hr4 G.out HXl.out (by omega) hrx4 HMt.out hg4.1 hg4.2 hl4.cell
    rw [hCU] at hCM
    clear hCU
    refine rangeFunc_movesN (n := 4) (l₀ := l) (r₀ := r) rfl ((hb4.block l (Array.getElem?_eq_some_iff.1 HRr.out).1).trans HRr.out) (by omega) (gf := 149) (lb := #[.pointer (some ⟨W.heap.size + 1, 0, none⟩), .pointer (some ⟨W.heap.size + 2, 0, none⟩)]) rfl trivial (enters_of Try.func149 (by kernel_rfl) rfl) (A := W.heap.size + 4) (by omega)
      hCM
      (fun h k => h.trans k) (fun V l o o' h1 h2 hl ho => (Kept.refl _ V).row (grownBy_putObj' V l o') (fun r e h => by cases e; omega))
      (fun Y Z i o h h1 h2 ho => (h.same i (by omega) (Array.getElem?_eq_some_iff.1 ho).1).trans ho) (fun Y Z h => h.size) (fun x V l o o' h _ _ hl ho => ⟨seesO_putObj h.1 hl ho, h.2⟩) (Below.refl _ _) (fun _ => rfl)
      (fun (pre' : List CyX) V => Boxed V W.heap.size 2 (.int .i64 (oddU (lsO pre') : Nat)) ∧ Below W.heap.size W V ∧ oddU (lsO pre') < B0)
      (fun c' pre' V => Below W.heap.size W V ∧ (c' = .exit 1 ∧ B0 ≤ oddU (lsO pre')))
      (OwnFrom.and (Own.from (boxed_own W.heap.size 2 (fun (pre' : List CyX) => Value.int .i64 (oddU (lsO pre') : Nat))) _) (OwnFrom.and (ownFrom_below (Nat.le_refl _) (by omega)) (ownFrom_pure _ (fun (pre' : List CyX) => oddU (lsO pre') < B0))))
      (fun c' => OwnFrom.and (ownFrom_below (Nat.le_refl _) (by omega)) (ownFrom_pure _ (fun (pre' : List CyX) => c' = .exit 1 ∧ B0 ≤ oddU (lsO pre'))))
      (fun s Y Z h hm => ⟨boxN_moved h.1 hm (by omega), h.2.1.trans (hm.below (fun i hi => by omega) h.2.1.size), h.2.2⟩)
      (fun c' s Y Z h hm => ⟨h.1.trans (hm.below (fun i hi => by omega) h.1.size), h.2⟩)
      ⟨hq4, hb4, hpos⟩
      ?a2 ?assign2 ?body2 ?done2 ?stop2
    case assign2 =>
      intro l' y V K hK
      gi_wp2
      exact hK
    case body2 =>
      rintro l' pre' ⟨qy, cy, Ly⟩ V hl1' hl2' _ ⟨hu', hB', hlt2⟩ hX' hA' hlt'
      obtain ⟨T, hT⟩ : ∃ T, oddU (lsO pre') = T := ⟨_, rfl⟩
      have hT30 : T ≤ 30 := by
        have h1 := oddU_le (lsO pre')
        have h2 : (lsO pre').length = pre'.length := by unfold lsO; rw [List.length_map]
        omega
      rw [hT] at hu' hlt2
      obtain ⟨m8, hm8⟩ : ∃ m8, Ly.length = m8 := ⟨_, rfl⟩
      have hm30 : m8 ≤ 30 := by have h0 := hX'.2.2.1; simp only at h0; omega
      obtain ⟨z, hz⟩ : ∃ z, m8 % 2 = z := ⟨_, rfl⟩
      have hmod : (m8 : Int) % 2 = (z : Int) := by omega
      have hz2 : z < 2 := by omega
      have hsn : oddU (lsO (pre' ++ [(qy, cy, Ly)])) = T + z := by rw [lsO_snoc, oddU_append, oddU_one, hT, hm8, hz]
      have HSn := hid hsn
      have hc' := hu'.cell
      have hf' := hu'.frozen
      have hul := hu'.lt
      have hcF := (boxN_on HF.out hB').cell
      have hcFl := (boxN_on HF.out hB').lt
      have HSet := hid (Boxed.set (.int .i64 (T + z : Nat)) hu')
      have HBV := hid hB'
      have HcF2 := hid (show ∀ v, (V.setCell ⟨W.heap.size, 0, none⟩ v).cell? ⟨w.heap.size + 2, 0, none⟩ = some (.int .i64 B0) from fun v => ((boxN_on HF.out hB').other (by omega) v).cell)
      dsimp only
      rw [hm8]
      clear hT hm8 hz hsn hX' hu' hB'
      have hsum : (T : Int) + (m8 : Int) % 2 = ((T + z : Nat) : Int) := by omega
      have HSum := hid hsum
      have hKp : ∀ v, Kept (fun i => i < W.heap.size ∨ i = W.heap.size + 1 ∨ i = W.heap.size + 4) V (V.setCell ⟨W.heap.size, 0, none⟩ v) := fun v => (Kept.refl _ V).set (by simp only; omega) v
      have HKp := hid hKp
      clear hsum hKp hmod
      by_cases hge : (B0 : Int) ≤ (T : Int) + (m8 : Int) % 2
      · have HGe := hid (show B0 ≤ T + z by have := HSum.out; omega)
        gi_wp2
        rw [HSum.out]
        exact ⟨(KeepsOthers.setCell _ _ _).from _, HBV.out.setCell (p := ⟨W.heap.size, 0, none⟩) (Nat.le_refl _) _, rfl, by rw [HSn.out]; exact HGe.out⟩
      · have HGe := hid (show T + z < B0 by have := HSum.out; omega)
        gi_wp2
        rw [HSum.out]
        exact ⟨(KeepsOthers.setCell _ _ _).from _, HKp.out _, by rw [HSn.out]; exact HSet.out, HBV.out.setCell (p := ⟨W.heap.size, 0, none⟩) (Nat.le_refl _) _, by rw [HSn.out]; exact HGe.out⟩
    case done2 =>
      rintro ys V hS ⟨hu', hB', hlt2⟩
      have hS' : lsO ys = CU n := hS
      have hodd : oddU (lsO ys) = oddM es x := by rw [hS']; unfold oddM; rw [HCU.out, Hn.out]
      obtain ⟨z, hz⟩ : ∃ z, oddM es x = z := ⟨_, rfl⟩
      rw [hodd, hz] at hu' hlt2
      have hst : bestF (oddM es) N (pre ++ [x]) = (x, z) := by rw [bestF_snoc, bstep_yes, hz]; have := HB0.out; unfold bvl at this; rw [this, hz]; exact hlt2
      have HX2 := hid (show bxs N es (pre ++ [x]) = x by unfold bxs; rw [hst])
      have HV2 := hid (show bvl N es (pre ++ [x]) = z by unfold bvl; rw [hst])
      have HBV := hid hB'
      have HOd := hid hu'
      have HXV := hid (HXO.out.on hB')
      have hVz := hB'.size
      clear hst hodd hz hS hS' hu' hB' hlt2
      gi_wp2
      refine region_held_round (S := fun w' => Boxed w' W.heap.size 2 (.int .i64 z)) (by kernel_rfl) (by kernel_rfl) ?_
      refine wpAnyH_take (i := 2) (v := .int .i64 z) rfl (by kernel_rfl) (by kernel_rfl) (by kernel_rfl) (fun _ _ _ h => h) (Or.inl ⟨by rfl, fun w hSw => ?_⟩) (boxN_on HOd.out (Below.refl _ _).drew) ?_
      · have h0 := hSw.cell
        go_simp
      simp only [Act.put, List.getElem_toArray, List.getElem_cons_zero, List.getElem_cons_succ, List.setIfInBounds_toArray, List.set_cons_zero, List.set_cons_succ]
      refine wpAnyH_take (i := 0) (v := .slice (some ⟨w.heap.size + 8 + 1, 0, none⟩) H H) rfl (by kernel_rfl) (by kernel_rfl) (by kernel_rfl) (fun _ _ _ h => h) (Or.inl ⟨by rfl, fun w hSw => ?_⟩) (boxN_on HOd.out (Below.refl _ _).drew) ?_
      · go_simp
      simp only [Act.put, List.getElem_toArray, List.getElem_cons_zero, List.setIfInBounds_toArray, List.set_cons_zero, List.set_cons_succ]
      refine wpAnyH_ready (rs := [1]) (by kernel_rfl) (by simp) ?_
      refine AllReadyH.cons rfl (fun K hK => ?_) AllReadyH.nil
      go_simp
      refine (cloneN_row (w.heap.size + 8 + 1) 0 H H x _ HXl.out (by omega) (HXV.out.on (Below.refl _ _).drew).reads).mono ?_
      rintro e' W5 ⟨q5, cap5, rfl, hf5, hb5⟩
      obtain ⟨g5, rfl, hg5, ho5⟩ := fresh_some hf5 hH0
      have HB5 := hid (show Below V.heap.size V W5 from ⟨hb5.os, hb5.tape, hb5.output, hb5.size, hb5.block⟩)
      have hg5' : V.heap.size ≤ g5 := hg5
      have HO5 := hid ho5
      have HBW5 := hid (show Below W.heap.size W W5 from bfrom HBV.out HB5.out)
      have HU5 := hid (boxN_on HU.out HBW5.out)
      have HF5 := hid (boxN_on HF.out HBW5.out)
      have HOd5 := hid (boxN_on HOd.out HB5.out)
      have hcu5 := HU5.out.cell
      have hfu5 := HU5.out.frozen
      have hzu5 := HU5.out.lt
      have hcf5 := HF5.out.cell
      have hff5 := HF5.out.frozen
      have hzf5 := HF5.out.lt
      have hco5 := HOd5.out.cell
      have hzo5 := HOd5.out.lt
      clear hf5 hb5 hg5 ho5
      refine hK.out _ _ ?_ (fun _ => ?_)
      · exact HOd5.out
      clear hK K
      refine wpAnyH_ready (rs := [3]) (by kernel_rfl) (by simp) ?_
      refine AllReadyH.cons rfl (fun K hK => ?_) AllReadyH.nil
      go_simp
      refine hK.out _ _ ?_ (fun _ => ?_)
      · exact HOd5.out.other (by omega) _
      clear hK K
      refine wpAnyH_ready (rs := [4]) (by kernel_rfl) (by simp) ?_
      refine AllReadyH.cons rfl (fun K hK => ?_) AllReadyH.nil
      go_simp
      refine hK.out _ _ ?_ (fun _ => ?_)
      · exact (HOd5.out.other (by omega) _).other (by omega) _
      clear hK K
      refine wpAnyH_done (by kernel_rfl) ?_ _
      simp only [onlyN_normal]
      obtain ⟨Wf, hWf⟩ : ∃ Wf, (W5.setCell ⟨w.heap.size + 1, 0, none⟩ (.slice (some ⟨g5, 0, none⟩) H cap5)).setCell ⟨w.heap.size + 1 + 1, 0, none⟩ (.int .i64 z) = Wf := ⟨_, rfl⟩
      have hblk : ∀ i, i ≠ w.heap.size + 1 → i ≠ w.heap.size + 2 → Wf.heap[i]? = W5.heap[i]? := fun i h1 h2 => by
        rw [← hWf]
        exact (heap_setCell_other _ _ i _ (by show i ≠ w.heap.size + 1 + 1; omega)).trans (heap_setCell_other _ _ i _ (by show i ≠ w.heap.size + 1; omega))
      have kf : KeepsFrom w6.heap.size W Wf := by
        rw [← hWf]
        exact ((keepsO_of_below HBW5.out).trans ((KeepsOthers.setCell _ _ _).from _)).trans ((KeepsOthers.setCell _ _ _).from _)
      have kp : Kept (fun i => i < w1.heap.size) W Wf := by
        rw [← hWf]
        exact (((Kept.refl _ W).call HBW5.out).set (by show ¬ w.heap.size + 1 < w1.heap.size; omega) _).set (by show ¬ w.heap.size + 1 + 1 < w1.heap.size; omega) _
      have kx : KeptX (w.heap.size + 8) W Wf := ⟨kp.size, fun i h1 h2 _ => (hblk i (by omega) (by omega)).trans (HBW5.out.block i h2)⟩
      have k1 : Boxed Wf (w.heap.size + 1) 44 (.slice (some ⟨g5, 0, none⟩) H cap5) := by rw [← hWf]; exact (Boxed.set _ HU5.out).other (by omega) _
      have k2 : Boxed Wf (w.heap.size + 2) 2 (.int .i64 z) := by rw [← hWf]; exact Boxed.set _ (HF5.out.other (by omega) _)
      have k3 : Wf.ownsRow (w.heap.size + 8 + 2) 2 1 (.slice (some ⟨g5, 0, none⟩) H cap5) H (intVals x) := OwnI.row (HO5.out.keep (hblk g5 (by omega) (by omega))) HXl.out (by omega)
      have k4 : Below w1.heap.size w1 Wf := by
        rw [← hWf]
        exact ((HBW.out.trans (HBW5.out.mono hzW)).setCell (p := ⟨w.heap.size + 1, 0, none⟩) (by show w1.heap.size ≤ w.heap.size + 1; omega) _).setCell (p := ⟨w.heap.size + 1 + 1, 0, none⟩) (by show w1.heap.size ≤ w.heap.size + 1 + 1; omega) _
      have hcoF : Wf.cell? ⟨W.heap.size, 0, none⟩ = some (.int .i64 z) := by rw [← hWf]; exact ((HOd5.out.other (by omega) _).other (by omega) _).cell
      have hzoF : W.heap.size < Wf.heap.size := by rw [← hWf]; simpa [World.setCell] using hzo5
      have KF := hid kf
      have KP := hid kp
      have KX := hid kx
      have K1 := hid k1
      have K2 := hid k2
      have K3 := hid k3
      have K4 := hid k4
      clear kf kp kx k1 k2 k3 k4 hblk hcu5 hfu5 hcf5 hff5 hco5
      rw [hWf]
      clear hWf
      by_cases hz0 : z = 0
      · have hz0' : (z : Int) = 0 := by omega
        gi_wp2
        exact ⟨KF.out, KX.out, ⟨_, K1.out, by rw [HX2.out, HXl.out]; exact K3.out, trivial⟩, by rw [HV2.out]; exact K2.out, K4.out, rfl, by rw [HV2.out]; exact hz0⟩
      · have hz0' : ¬ (z : Int) = 0 := by omega
        gi_wp2
        exact ⟨KF.out, ⟨KP.out, KX.out⟩, ⟨_, K1.out, by rw [HX2.out, HXl.out]; exact K3.out, trivial⟩, by rw [HV2.out]; exact K2.out, K4.out, by rw [HV2.out]; omega⟩
    case stop2 =>
      rintro c' pre' V ⟨k, hk, hmap⟩ ⟨hB', rfl, hge⟩
      have hno : ¬ oddM es x < B0 := by
        have h1 : oddU (CU k) ≤ oddU (CU n) := by
          obtain ⟨j, rfl⟩ : ∃ j, n = k + j := ⟨n - k, by omega⟩
          rw [← HCU.out]
          exact oddU_pre (cyU_grow _ _ _ _ _)
        have h2 : oddU (CU n) = oddM es x := by unfold oddM; rw [HCU.out, Hn.out]
        have h3 : oddU (lsO pre') = oddU (CU k) := by unfold lsO; rw [hmap]
        omega
      have hst : bestF (oddM es) N (pre ++ [x]) = bestF (oddM es) N pre := by rw [bestF_snoc, bstep_no]; have := HB0.out; unfold bvl at this; rw [this]; exact hno
      have HX2 := hid (show bxs N es (pre ++ [x]) = bxs N es pre by unfold bxs; rw [hst])
      have HV2 := hid (show bvl N es (pre ++ [x]) = B0 by unfold bvl; rw [hst]; exact HB0.out)
      have HBV := hid hB'
      clear hno hst hB' hmap hge
      gi_wp2
      refine ⟨keepsO_of_below HBV.out, ⟨(Kept.refl _ W).call HBV.out, HBV.out.size, fun i _ hi _ => HBV.out.block i hi⟩, ⟨u, boxN_on HU.out HBV.out, by rw [HX2.out]; exact rowO_on HRow.out HBV.out, trivial⟩, by rw [HV2.out]; exact boxN_on HF.out HBV.out, HBW.out.trans (HBV.out.mono hzW), by rw [HV2.out]; exact hpos⟩
  case done =>
    rintro D ys W hD hS ⟨⟨u, hu, hrow, _⟩, hf, hB, hpos⟩ hK
    have hys : ys = mtL N es := by rw [hS]; exact HLL.out
    rw [hys] at hrow hf
    obtain ⟨q, cap, rfl, hfr⟩ : ∃ q cap, u = .slice q (bxs N es (mtL N es)).length cap ∧ FreshI (w.heap.size + 8 + 2) W q (bxs N es (mtL N es)).length cap (bxs N es (mtL N es)) := by
      rcases hrow.2 with ⟨rfl, h0⟩ | ⟨g, cap, cur, rfl, _⟩
      · exact ⟨none, 0, by rw [h0], by rw [h0]; rw [h0] at hrow; exact hrow, rfl⟩
      · exact ⟨_, _, rfl, hrow, rfl⟩
    clear hrow hpos hys hS
    have hc1 := hu.cell
    have hz1' := hu.lt
    have hc2 := hf.cell
    have hz2' := hf.lt
    gi_wp2
    refine region_wide ?_
    go_quiet (fail)
    have hKd : (W.drewN nq).heap[D]? = some (.deferred (some [])) := hK
    have hBd : Below w.heap.size w (W.drewN nq) := bdn.mpr (HB1.out.trans (hB.mono (by omega)))
    have hrd := ownsRow_putObj (rowO_on hfr.1 (bdn.mpr (Below.refl W.heap.size W) : Below W.heap.size W (W.drewN nq))) (.deferred none) hKd rfl
    have HRd := hid hrd
    have HBd := hid hBd
    clear hfr hrd hBd
    gi_wp2
    refine ⟨by simp, .inl ⟨_, _, rfl, run_takeDeferred hKd, ?_⟩⟩
    exact ⟨_, results_tmp2 rfl _ _ _, q, cap, rfl, FreshI.less ⟨HRd.out, rfl⟩ (by omega), HBd.out.trans (belowK_b (w := w) (Nat.le_refl _) (W.drewN nq) D _ _ (by omega) hKd rfl rfl)⟩
  case stop =>
    rintro D c' pre W hD hpre ⟨⟨u, hu, hrow, _⟩, hf, hB, rfl, hz⟩ hK
    have hbe : bestF (oddM es) N (mtL N es) = bestF (oddM es) N pre := bestF_zero (by rw [← HLL.out]; exact hpre) hz
    have hbx : bxs N es pre = bxs N es (mtL N es) := by unfold bxs; rw [hbe]
    have hbv : bvl N es pre = bvl N es (mtL N es) := by unfold bvl; rw [hbe]
    rw [hbx] at hrow
    rw [hbv] at hf
    obtain ⟨q, cap, rfl, hfr⟩ : ∃ q cap, u = .slice q (bxs N es (mtL N es)).length cap ∧ FreshI (w.heap.size + 8 + 2) W q (bxs N es (mtL N es)).length cap (bxs N es (mtL N es)) := by
      rcases hrow.2 with ⟨rfl, h0⟩ | ⟨g, cap, cur, rfl, _⟩
      · exact ⟨none, 0, by rw [h0], by rw [h0]; rw [h0] at hrow; exact hrow, rfl⟩
      · exact ⟨_, _, rfl, hrow, rfl⟩
    clear hrow hbe hbx hbv hz hpre
    have hc1 := hu.cell
    have hz1' := hu.lt
    have hc2 := hf.cell
    have hz2' := hf.lt
    gi_wp2
    refine region_wide ?_
    go_quiet (fail)
    have hKd : (W.drewN nq).heap[D]? = some (.deferred (some [])) := hK
    have hBd : Below w.heap.size w (W.drewN nq) := bdn.mpr (HB1.out.trans (hB.mono (by omega)))
    have hrd := ownsRow_putObj (rowO_on hfr.1 (bdn.mpr (Below.refl W.heap.size W) : Below W.heap.size W (W.drewN nq))) (.deferred none) hKd rfl
    have HRd := hid hrd
    have HBd := hid hBd
    clear hfr hrd hBd
    gi_wp2
    refine ⟨by simp, .inl ⟨_, _, rfl, run_takeDeferred hKd, ?_⟩⟩
    exact ⟨_, results_tmp2 rfl _ _ _, q, cap, rfl, FreshI.less ⟨HRd.out, rfl⟩ (by omega), HBd.out.trans (belowK_b (w := w) (Nat.le_refl _) (W.drewN nq) D _ _ (by omega) hKd rfl rfl)⟩

end Go.Proofs.Ythacpadadccioaa

namespace Go.Proofs.Ythacpadadccioaa
open Go.RowKit

theorem foldB_le {f : List Int → Nat} : ∀ (L : List (List Int)) (s : List Int × Nat), (L.foldl (bstep f) s).2 ≤ s.2 ∧ ∀ x, x ∈ L → (L.foldl (bstep f) s).2 ≤ f x
  | [], s => ⟨Nat.le_refl _, fun x h => by cases h⟩
  | y :: L, s => by
    rw [List.foldl_cons]
    obtain ⟨h1, h2⟩ := foldB_le (f := f) L (bstep f s y)
    have h3 : (bstep f s y).2 ≤ s.2 ∧ (bstep f s y).2 ≤ f y := by
      by_cases h : f y < s.2
      · rw [bstep_yes h]; exact ⟨by show f y ≤ s.2; omega, Nat.le_refl _⟩
      · rw [bstep_no h]; exact ⟨Nat.le_refl _, by omega⟩
    refine ⟨by omega, fun x hx => ?_⟩
    rcases List.mem_cons.1 hx with rfl | hx
    · omega
    · exact h2 x hx
theorem best_some {N H : Nat} {es : List (Int × Int)} (g : IsG N es) (hH : N = 2 * H) (h : mtL N es ≠ []) : (bestF (oddM es) N (mtL N es)).1.length = H ∧ 0 < H := by
  have hN2 : 0 < N := by have := g.1.1.1; omega
  refine ⟨?_, by omega⟩
  rcases bestF_mem (f := oddM es) (N := N) (mtL N es) with h1 | ⟨h1, _⟩
  · obtain ⟨x, t, hx⟩ := List.exists_cons_of_ne_nil h
    have hm : x ∈ mtL N es := by rw [hx]; simp
    have h2 := (foldB_le (f := oddM es) (mtL N es) ([], N)).2 x hm
    have h3 := oddM_lt g (mtL_mat g hH hm)
    have h4 : ((mtL N es).foldl (bstep (oddM es)) ([], N)).2 = N := by
      have := congrArg Prod.snd h1
      exact this
    omega
  · have h2 := mtF_len _ _ _ _ h1
    rw [h2, List.length_nil]
    omega
theorem best_none {N : Nat} {es : List (Int × Int)} (h : mtL N es = []) : bestF (oddM es) N (mtL N es) = ([], N) := by rw [h]; rfl

def fOddnessOf (s : Int) (es : List (Int × Int)) : Int × Int := if IsG s es then (if mtL s.toNat es = [] then (0, 4) else (((bestF (oddM es) s.toNat (mtL s.toNat es)).2 : Nat), 0)) else (0, 1)
def fBestMatching (s : Int) (es : List (Int × Int)) : List Int × Int := if IsG s es then (if mtL s.toNat es = [] then ([], 4) else ((bestF (oddM es) s.toNat (mtL s.toNat es)).1, 0)) else ([], 1)

set_option maxRecDepth 100000 in
set_option maxHeartbeats 4000000 in
theorem sOd_yes (N H : Nat) (b off n c : Nat) (es : List (Int × Int)) (w : World) (hn : es.length = n) (hr : ReadsE w b off es) (g : IsG N es) (hH : N = 2 * H) :
    Calls Try.prog 28 #[.agg #[.int .i64 N, .slice (some ⟨b, off, none⟩) n c]] w fun e' w' => e' = .returned (.tuple #[.int .i64 (if mtL N es = [] then 0 else ((bestF (oddM es) N (mtL N es)).2 : Nat)), .int .i64 (if mtL N es = [] then 4 else 0)]) ∧ Below w.heap.size w w' := by
  have hn30 : n ≤ 30 := by have := isG_len g; omega
  have Hn := hid hn
  have Hr := hid hr
  have G := hid g
  have HH := hid hH
  clear hn hr g hH
  go_enter Try.func28, Try.ntmps28
  go_wp2_with fail
  refine (sIs_any _ _ _ _ es _ (by omega) Hn.out (SeesE.on (.inr ⟨b, off, rfl, Hr.out⟩) (on_alloc _ _))).mono ?_
  rw [decide_eq_true G.out]
  rintro e w2 ⟨rfl, hb2⟩
  have HB2 := hid (bfrom (w := w) (on_alloc _ _) hb2)
  have HX2 := hid ((Box.new w N (some ⟨b, off, none⟩) n c 30).on hb2)
  have hx2 := HX2.out.1
  have hy2 := HX2.out.2
  have hz2 := HX2.out.lt
  clear hb2
  go_wp2_with fail
  refine (sBest_any N H b off n c es _ Hn.out (Hr.out.on HB2.out) G.out HH.out).mono ?_
  rintro e w3 ⟨q, m, cap, v, xs, rfl, hsee, hlx, hm30, hbest, hb3⟩
  have HB3 := hid (bfrom HB2.out hb3)
  by_cases hL : mtL N es = []
  · have hd : decide (0 < (mtL N es).length) = false := by rw [hL]; rfl
    rw [hd]
    have HL := hid hL
    clear hbest hsee hlx hb3 hx2 hy2 hL hd
    go_wp2
    go_ret2
    exact ⟨by first | rfl | rw [if_pos HL.out, if_pos HL.out], HB3.out⟩
  · rw [decide_eq_true (List.length_pos_iff.2 hL)]
    have HV := hid (show ((bestF (oddM es) N (mtL N es)).2 : Int) = v by
      obtain ⟨h1, h2⟩ := hbest hL
      rw [h1]
      show (v.toNat : Int) = v
      omega)
    have HL := hid hL
    clear hbest hsee hlx hb3 hx2 hy2 hL
    go_wp2
    go_ret2
    exact ⟨by first | rfl | (rw [if_neg HL.out, if_neg HL.out, HV.out]; rfl) | (rw [HV.out]; rfl), HB3.out⟩

set_option maxRecDepth 100000 in
set_option maxHeartbeats 4000000 in
theorem sOd_none (s : Int) (p : Option Addr) (n c : Nat) (es : List (Int × Int)) (w : World) (hm : n ≤ 1048576) (hn : es.length = n) (hr : SeesE w p es) (g : ¬ IsG s es) :
    Calls Try.prog 28 #[.agg #[.int .i64 s, .slice p n c]] w fun e' w' => e' = .returned (.tuple #[.int .i64 0, .int .i64 1]) ∧ Below w.heap.size w w' := by
  have Hn := hid hn
  have Hr := hid hr
  have G := hid g
  clear hn hr g
  go_enter Try.func28, Try.ntmps28
  go_wp2_with fail
  refine (sIs_any _ _ _ _ es _ (by omega) Hn.out (Hr.out.on (on_alloc _ _))).mono ?_
  rw [decide_eq_false G.out]
  rintro e w2 ⟨rfl, hb2⟩
  have HB2 := hid (bfrom (w := w) (on_alloc _ _) hb2)
  clear hb2
  go_wp2
  go_ret2
  exact ⟨rfl, HB2.out⟩

theorem sOddnessOf_any (s : Int) (p : Option Addr) (n c : Nat) (es : List (Int × Int)) (w : World) (hm : n ≤ 1048576) (hn : es.length = n) (hr : SeesE w p es) :
    Calls Try.prog 28 #[.agg #[.int .i64 s, .slice p n c]] w fun e' w' => e' = .returned (.tuple #[.int .i64 (fOddnessOf s es).1, .int .i64 (fOddnessOf s es).2]) ∧ Below w.heap.size w w' := by
  unfold fOddnessOf
  by_cases g : IsG s es
  · rw [if_pos g]
    obtain ⟨b, off, rfl, rd⟩ := isG_sees g hr
    obtain ⟨N, rfl⟩ : ∃ N : Nat, s = N := ⟨_, (Int.toNat_of_nonneg (by have := g.1.1.1; omega)).symm⟩
    rw [Int.toNat_natCast]
    have h := sOd_yes N (N / 2) b off n c es w hn rd g (by have := g.1.1.2.2.1; omega)
    by_cases hL : mtL N es = []
    · rw [if_pos hL, if_pos hL] at h; rw [if_pos hL]; exact h
    · rw [if_neg hL, if_neg hL] at h; rw [if_neg hL]; exact h
  · rw [if_neg g]
    exact sOd_none s p n c es w hm hn hr g

set_option maxRecDepth 100000 in
set_option maxHeartbeats 4000000 in
theorem iOd_yes (N H : Nat) (b off n c : Nat) (es : List (Int × Int)) (w : World) (hn : es.length = n) (hr : ReadsE w b off es) (g : IsG N es) (hH : N = 2 * H) :
    Calls Try.prog 29 #[.agg #[.int .i64 N, .slice (some ⟨b, off, none⟩) n c]] w fun e' w' => e' = .returned (.tuple #[.int .i64 (if mtL N es = [] then 0 else ((bestF (oddM es) N (mtL N es)).2 : Nat)), .int .i64 (if mtL N es = [] then 4 else 0)]) ∧ Below w.heap.size w w' := by
  have hn30 : n ≤ 30 := by have := isG_len g; omega
  have Hn := hid hn
  have Hr := hid hr
  have G := hid g
  have HH := hid hH
  clear hn hr g hH
  go_enter Try.func29, Try.ntmps29
  go_wp2_with fail
  refine (iIsGraph_any _ _ _ _ es _ (by omega) Hn.out (SeesE.on (.inr ⟨b, off, rfl, Hr.out⟩) (on_alloc _ _))).mono ?_
  rw [decide_eq_true G.out]
  rintro e w2 ⟨rfl, hb2⟩
  have HB2 := hid (bfrom (w := w) (on_alloc _ _) hb2)
  have HX2 := hid ((Box.new w N (some ⟨b, off, none⟩) n c 30).on hb2)
  have hx2 := HX2.out.1
  have hy2 := HX2.out.2
  have hz2 := HX2.out.lt
  clear hb2
  go_wp2_with fail
  refine (iBest_any N H b off n c es _ Hn.out (Hr.out.on HB2.out) G.out HH.out).mono ?_
  rintro e w3 ⟨q, cap, rfl, hf, hb3⟩
  have HB3 := hid (bfrom HB2.out hb3)
  by_cases hL : mtL N es = []
  · rw [best_none hL]
    simp only [List.length_nil]
    have HL := hid hL
    clear hf hb3 hx2 hy2 hL
    go_wp2
    go_ret2
    exact ⟨by first | rfl | rw [if_pos HL.out, if_pos HL.out], HB3.out⟩
  · obtain ⟨h1, h2⟩ := best_some G.out HH.out hL
    rw [h1]
    have hH0 : ¬ ((H : Int) = 0) := by omega
    obtain ⟨v, hv⟩ : ∃ v, (bestF (oddM es) N (mtL N es)).2 = v := ⟨_, rfl⟩
    rw [hv]
    have hH9 : H ≤ 10 := by have := G.out.1.1.2.1; have := HH.out; omega
    have HL := hid hL
    have HV := hid hv
    clear hf hb3 hx2 hy2 h1 hv hL
    go_wp2
    go_ret2
    exact ⟨by first | rfl | (rw [if_neg HL.out, if_neg HL.out, HV.out]; rfl) | (rw [HV.out]; rfl), HB3.out⟩

set_option maxRecDepth 100000 in
set_option maxHeartbeats 4000000 in
theorem iOd_none (s : Int) (p : Option Addr) (n c : Nat) (es : List (Int × Int)) (w : World) (hm : n ≤ 1048576) (hn : es.length = n) (hr : SeesE w p es) (g : ¬ IsG s es) :
    Calls Try.prog 29 #[.agg #[.int .i64 s, .slice p n c]] w fun e' w' => e' = .returned (.tuple #[.int .i64 0, .int .i64 1]) ∧ Below w.heap.size w w' := by
  have Hn := hid hn
  have Hr := hid hr
  have G := hid g
  clear hn hr g
  go_enter Try.func29, Try.ntmps29
  go_wp2_with fail
  refine (iIsGraph_any _ _ _ _ es _ (by omega) Hn.out (Hr.out.on (on_alloc _ _))).mono ?_
  rw [decide_eq_false G.out]
  rintro e w2 ⟨rfl, hb2⟩
  have HB2 := hid (bfrom (w := w) (on_alloc _ _) hb2)
  clear hb2
  go_wp2
  go_ret2
  exact ⟨rfl, HB2.out⟩

theorem iOddnessOf_any (s : Int) (p : Option Addr) (n c : Nat) (es : List (Int × Int)) (w : World) (hm : n ≤ 1048576) (hn : es.length = n) (hr : SeesE w p es) :
    Calls Try.prog 29 #[.agg #[.int .i64 s, .slice p n c]] w fun e' w' => e' = .returned (.tuple #[.int .i64 (fOddnessOf s es).1, .int .i64 (fOddnessOf s es).2]) ∧ Below w.heap.size w w' := by
  unfold fOddnessOf
  by_cases g : IsG s es
  · rw [if_pos g]
    obtain ⟨b, off, rfl, rd⟩ := isG_sees g hr
    obtain ⟨N, rfl⟩ : ∃ N : Nat, s = N := ⟨_, (Int.toNat_of_nonneg (by have := g.1.1.1; omega)).symm⟩
    rw [Int.toNat_natCast]
    have h := iOd_yes N (N / 2) b off n c es w hn rd g (by have := g.1.1.2.2.1; omega)
    by_cases hL : mtL N es = []
    · rw [if_pos hL, if_pos hL] at h; rw [if_pos hL]; exact h
    · rw [if_neg hL, if_neg hL] at h; rw [if_neg hL]; exact h
  · rw [if_neg g]
    exact iOd_none s p n c es w hm hn hr g

end Go.Proofs.Ythacpadadccioaa
