/- CoverNumber in the program. -/
import Derived.Test.YtaafbdpdpndplaaCvnA
import Derived.Test.YtaafbdpdpndplaaLawsF
import Derived.Test.YtaafbdpdpndplaaSetI
import Derived.BigQuiet
import Derived.Test.YtaafbdpdpndplaaLists
import Derived.Test.YtaafbdpdpndplaaRowN
import Derived.StillTailTactics
import Derived.Test.YtaafbdpdpndplaaMtQ
import Derived.Deep.AppendLies
import Derived.Deep.DeepMust

/- Covers by matchings in the program: setOfEdges, areEnough, fewestWith. -/
namespace Go.Proofs.Ytaafbdpdpndplaa
open Go.RowKit

/- Rows of numbers without a sign. -/
def eU (Ss : List Nat) (i : Nat) : Nat := Ss.getD i 0
def ReadsU (w : World) (b off : Nat) (Ss : List Nat) : Prop := ∀ i, i < Ss.length → w.cell? ⟨b, off + i, none⟩ = some (.int .u64 ((eU Ss i : Nat) : Int))
theorem ReadsU.on {w w' : World} {b off : Nat} {Ss : List Nat} (h : ReadsU w b off Ss) (hb : Below w.heap.size w w') : ReadsU w' b off Ss := fun i hi =>
  (World.cell?_of_block (w := w) (w' := w') (a := ⟨b, off + i, none⟩) (hb.block b (World.block_lt_of_cell? w _ (h i hi)))).trans (h i hi)
def SeesU (w : World) (q : Option Addr) (Ss : List Nat) : Prop := Ss = [] ∨ ∃ b off, q = some ⟨b, off, none⟩ ∧ ReadsU w b off Ss
theorem SeesU.on {w w' : World} {q : Option Addr} {Ss : List Nat} (h : SeesU w q Ss) (hb : Below w.heap.size w w') : SeesU w' q Ss := by
  rcases h with h | ⟨b, off, h1, h2⟩
  · exact .inl h
  · exact .inr ⟨b, off, h1, h2.on hb⟩

/-- The number of a list's set. -/
def setN (xs : List Int) : Nat := xs.foldl (fun s y => s ||| 2 ^ y.toNat) 0
theorem setN_snoc (xs : List Int) (y : Int) : setN (xs ++ [y]) = setN xs ||| 2 ^ y.toNat := by
  unfold setN
  rw [List.foldl_append]
  rfl
theorem setN_go : ∀ (xs ys : List Int) (s : Nat), SetM s ys → (∀ y, y ∈ xs → 0 ≤ y) → SetM (xs.foldl (fun s y => s ||| 2 ^ y.toNat) s) (ys ++ xs)
  | [], ys, s, h, _ => by rw [List.append_nil]; exact h
  | y :: xs, ys, s, h, hx => by
    have h0 := hx y (List.mem_cons_self ..)
    have h1 := setN_go xs (ys ++ [y]) (s ||| 2 ^ y.toNat) (by
      have h2 := h.snoc (e := y.toNat)
      rwa [Int.toNat_of_nonneg h0] at h2) (fun z hz => hx z (List.mem_cons_of_mem _ hz))
    rw [List.append_assoc] at h1
    exact h1
theorem setN_is {xs : List Int} (h : ∀ y, y ∈ xs → 0 ≤ y) : SetM (setN xs) xs := by
  have h1 := setN_go xs [] 0 setM_nil h
  rwa [List.nil_append] at h1
theorem setN_lt {xs : List Int} (h : ∀ y, y ∈ xs → 0 ≤ y ∧ y < 30) : setN xs < 1073741824 := by
  have h1 := (setN_is fun y hy => (h y hy).1).lt (n := 30) (fun y hy => (h y hy).2)
  exact h1
theorem pow_30 {v : Nat} (hv : v < 30) : 2 ^ v < 1073741824 := by
  have h := Nat.pow_lt_pow_right (a := 2) (by omega) hv
  simpa using h

theorem wrap_pow30 {V : Nat} (hV : V < 30) : IntKind.u64.wrap (2 ^ V) = ((2 ^ V : Nat) : Int) := by
  have h1 := pow_30 hV
  rw [show ((2 : Int) ^ V) = ((2 ^ V : Nat) : Int) by simp, IntKind.wrap_u64]
  obtain ⟨p, hp⟩ : ∃ p, 2 ^ V = p := ⟨_, rfl⟩
  rw [hp] at h1 ⊢
  omega

set_option maxRecDepth 100000 in
set_option maxHeartbeats 4000000 in
theorem iSetOf_any (q : Option Addr) (n c : Nat) (xs : List Int) (w : World) (hn : xs.length = n) (hm : n ≤ 1000) (hr : SeesI w q xs) (hx : ∀ y, y ∈ xs → 0 ≤ y ∧ y < 30) :
    Calls Try.prog 16 #[.slice q n c] w fun e w' => e = .returned (.int .u64 ((setN xs : Nat) : Int)) ∧ w = w' := by
  have Hn := hid hn
  have Hr := hid hr
  have HX := hid hx
  obtain ⟨r, hR⟩ : ∃ r, setN xs = r := ⟨_, rfl⟩
  rw [hR]
  have HR := hid hR
  clear hn hr hx hR
  go_enter Try.func16, Try.ntmps16
  go_wp2
  go_loop [3, 8] (fun s i => ∃ k S : Nat, k ≤ n ∧ S < 1073741824 ∧ s = .int .u64 S ∧ i = .int .i64 k ∧ Hid (S = setN (xs.take k))) (fun _ i => n - (intOf i).toNat)
  case atStart => exact ⟨0, 0, Nat.zero_le _, by omega, rfl, rfl, hid rfl⟩
  case round =>
    obtain ⟨k, S, hk, hS30, rfl, rfl, hS⟩ := hrel
    by_cases hlt : k < n
    · obtain ⟨b, off, rfl, hrd⟩ : ∃ b off, q = some ⟨b, off, none⟩ ∧ ReadsI w b off xs := by
        rcases Hr.out with h | h
        · have := Hn.out; rw [h] at this; simp at this; omega
        · exact h
      have h1 := hrd k (by have := Hn.out; omega)
      obtain ⟨y, hy⟩ : ∃ y, eI xs k = y := ⟨_, rfl⟩
      have hyx := HX.out y (by rw [← hy]; exact eI_mem (by have := Hn.out; omega))
      obtain ⟨Y, rfl⟩ : ∃ Y : Nat, y = Y := ⟨_, (Int.toNat_of_nonneg hyx.1).symm⟩
      have hY : Y < 30 := by omega
      rw [hy] at h1
      have HY := hid hy
      have hp := pow_30 hY
      have HO := hid (u64_or_nat S (2 ^ Y) (by omega) (by omega))
      have hS9 : S ||| 2 ^ Y < 1073741824 := Nat.or_lt_two_pow (n := 30) hS30 hp
      have HS9 := hid (show S ||| 2 ^ Y = setN (xs.take (k + 1)) by
        rw [List.take_add_one, List.getElem?_eq_getElem (by have := Hn.out; omega), ← eI_lt (by have := Hn.out; omega), HY.out]
        show _ = setN (xs.take k ++ [(Y : Int)])
        rw [setN_snoc, ← hS.out]
        rfl)
      clear hrd hy hyx
      go_wp2
      go_round
      case rel =>
        refine ⟨k + 1, S ||| 2 ^ Y, by omega, hS9, ?_, by go_num, HS9⟩
        rw [wrap_pow30 hY, HO.out]
      case measure => simp [intOf]; omega
    · obtain rfl : k = n := by omega
      have HE := hid (show r = S by rw [← HR.out, hS.out, List.take_of_length_le (by rw [Hn.out]; exact Nat.le_refl _)])
      go_wp2
      go_ret
      rw [HE.out]
      exact ⟨rfl, rfl⟩

/- The search. -/
set_option maxRecDepth 100000 in
set_option maxHeartbeats 4000000 in
theorem iIndexU_any (q : Option Addr) (n c : Nat) (u1 u2 u3 u4 : Value) (Ss : List Nat) (p : Nat → Bool) (w : World) (hn : Ss.length = n) (hm : n ≤ 1000) (hr : SeesU w q Ss)
    (hG : ∀ i, i < n → ∀ W, Below w.heap.size w W → Calls Try.prog 38 #[.int .u64 ((eU Ss i : Nat) : Int), u1, u2, u3, u4] W fun e' w' => e' = .returned (.bool (p i)) ∧ Below W.heap.size W w') :
    Calls Try.prog 44 #[.slice q n c, .func (.func 38) #[] #[u1, u2, u3, u4]] w fun e' w' => (∃ r : Int, e' = .returned (.int .i64 r) ∧ decide (0 ≤ r) = decide (∃ i, i < n ∧ p i = true)) ∧ Below w.heap.size w w' := by
  have Hn := hid hn
  have Hr := hid hr
  have HG := hid hG
  clear hn hr hG
  go_enter Try.func44, Try.ntmps44
  go_wp2
  go_loopw [8] (fun i wr => ∃ k : Nat, k ≤ n ∧ i = .int .i64 k ∧ Hid (∀ j, j < k → p j = false) ∧ Hid (Below w.heap.size w wr)) (fun i _ => n - (intOf i).toNat)
  case atStart => exact ⟨0, Nat.zero_le _, rfl, hid (fun j hj => by omega), hid (Below.refl _ _)⟩
  case round =>
    obtain ⟨k, hk, rfl, hE, hB⟩ := hrel
    by_cases hlt : k < n
    · obtain ⟨b, off, rfl, hrd⟩ : ∃ b off, q = some ⟨b, off, none⟩ ∧ ReadsU wr b off Ss := by
        rcases Hr.out.on hB.out with h | h
        · have := Hn.out; rw [h] at this; simp at this; omega
        · exact h
      have h1 := hrd k (by have := Hn.out; omega)
      have hbl := World.block_lt_of_cell? wr _ h1
      dsimp only at hbl
      obtain ⟨x, hx⟩ : ∃ x, eU Ss k = x := ⟨_, rfl⟩
      have hc := HG.out k hlt wr hB.out
      rw [hx] at h1 hc
      have HC := hid hc
      clear hx hc hrd
      cases hp : p k
      · go_wp2_with fail
        refine HC.out.mono ?_
        rw [hp]
        rintro e' w2 ⟨rfl, hb2⟩
        have HB2 := hid (bfrom hB.out hb2)
        clear hb2
        go_wp2
        go_roundw
        case rel =>
          refine ⟨k + 1, by omega, by go_num, hid (fun j hj => ?_), HB2⟩
          rcases Nat.lt_or_ge j k with h | h
          · exact hE.out j h
          · obtain rfl : j = k := by omega
            exact hp
        case measure => simp [intOf]; omega
      · go_wp2_with fail
        refine HC.out.mono ?_
        rw [hp]
        rintro e' w2 ⟨rfl, hb2⟩
        have HB2 := hid (bfrom hB.out hb2)
        clear hb2
        go_wp2
        go_ret
        exact ⟨⟨k, rfl, by rw [decide_eq_true (show (0 : Int) ≤ (k : Int) by omega), decide_eq_true ⟨k, hlt, hp⟩]⟩, HB2.out⟩
    · obtain rfl : k = n := by omega
      go_wp2
      go_ret
      refine ⟨⟨-1, rfl, ?_⟩, hB.out⟩
      rw [decide_eq_false (show ¬ ∃ i, i < k ∧ p i = true from fun ⟨i, h1, h2⟩ => by rw [hE.out i h1] at h2; cases h2)]
      rfl

set_option maxRecDepth 100000 in
set_option maxHeartbeats 4000000 in
theorem iContainsU_any (s : Option Addr) (n c : Nat) (u1 u2 u3 u4 : Value) (Ss : List Nat) (p : Nat → Bool) (w : World) (hn : Ss.length = n) (hm : n ≤ 1000) (hr : SeesU w s Ss)
    (hG : ∀ i, i < n → ∀ W, Below w.heap.size w W → Calls Try.prog 38 #[.int .u64 ((eU Ss i : Nat) : Int), u1, u2, u3, u4] W fun e' w' => e' = .returned (.bool (p i)) ∧ Below W.heap.size W w') :
    Calls Try.prog 37 #[.slice s n c, .func (.func 38) #[] #[u1, u2, u3, u4]] w fun e' w' => e' = .returned (.bool (decide (∃ i, i < n ∧ p i = true))) ∧ Below w.heap.size w w' := by
  obtain ⟨q, hq⟩ : ∃ q, decide (∃ i, i < n ∧ p i = true) = q := ⟨_, rfl⟩
  have HQ := hid hq
  rw [hq]
  have HC := hid (iIndexU_any s n c u1 u2 u3 u4 Ss p w hn hm hr hG)
  clear hn hr hG hq
  go_enter Try.func37, Try.ntmps37
  go_wp2_with fail
  refine HC.out.mono ?_
  rw [HQ.out]
  rintro e' w2 ⟨⟨r, rfl, h2⟩, hb2⟩
  have HB2 := hid hb2
  clear hb2
  cases q
  · have h3 : ¬ 0 ≤ r := of_decide_eq_false h2
    go_wp2
    go_ret
    exact ⟨rfl, HB2.out⟩
  · have h3 : 0 ≤ r := of_decide_eq_true h2
    go_wp2
    go_ret
    exact ⟨rfl, HB2.out⟩

end Go.Proofs.Ytaafbdpdpndplaa

/- . -/
namespace Go.Proofs.Ytaafbdpdpndplaa
open Go.RowKit

theorem wrap_neg {M : Nat} (h0 : 0 < M) (hM : M < 1073741824) : IntKind.u64.wrap (-(M : Int)) = ((18446744073709551616 - M : Nat) : Int) := by
  rw [IntKind.wrap_u64]
  omega

set_option maxRecDepth 100000 in
set_option maxHeartbeats 4000000 in
theorem iAreF_any (S L M K : Nat) (q : Option Addr) (m c a1 a2 a3 a4 : Nat) (r : Bool) (W : World) (hS : S < 1073741824) (hL : L < 1073741824) (hM : M < 1073741824) (hK : K ≤ 1000)
    (h1 : W.cell? ⟨a1, 0, none⟩ = some (.int .u64 (L : Int))) (h2 : W.cell? ⟨a2, 0, none⟩ = some (.slice q m c)) (h3 : W.cell? ⟨a3, 0, none⟩ = some (.int .u64 (M : Int))) (h4 : W.cell? ⟨a4, 0, none⟩ = some (.int .i64 ((K : Int) + 1)))
    (hno : S &&& L = 0 → r = false)
    (hyes : S &&& L ≠ 0 → Calls Try.prog 28 #[.slice q m c, .int .u64 ((M &&& (18446744073709551615 - S) : Nat) : Int), .int .i64 (K : Int)] W fun e w' => e = .returned (.bool r) ∧ Below W.heap.size W w') :
    Calls Try.prog 38 #[.int .u64 (S : Int), .pointer (some ⟨a1, 0, none⟩), .pointer (some ⟨a2, 0, none⟩), .pointer (some ⟨a3, 0, none⟩), .pointer (some ⟨a4, 0, none⟩)] W fun e w' => e = .returned (.bool r) ∧ Below W.heap.size W w' := by
  have ha := u64_and_nat S L (by omega) (by omega)
  have HA := hid (u64_andNot_nat M S (by omega) (by omega))
  have hl1 := World.block_lt_of_cell? W _ h1
  have hl2 := World.block_lt_of_cell? W _ h2
  have hl3 := World.block_lt_of_cell? W _ h3
  have hl4 := World.block_lt_of_cell? W _ h4
  dsimp only at hl1 hl2 hl3 hl4
  by_cases hz : S &&& L = 0
  · have hr := hno hz
    rw [hz] at ha
    have g1 : (bits .and .u64 (S : Int) (L : Int) != 0) = false := by rw [ha]; rfl
    subst hr
    clear hno hyes ha HA hz
    go_enter Try.func38, Try.ntmps38
    go_wp2
    go_ret
    exact ⟨rfl, Below.refl _ _⟩
  · have HY := hid (hyes hz)
    have g1 : (bits .and .u64 (S : Int) (L : Int) != 0) = true := by
      rw [ha]
      simp
      omega
    clear hno hyes ha hz
    go_enter Try.func38, Try.ntmps38
    go_wp2_with fail
    rw [HA.out]
    refine HY.out.mono ?_
    rintro e' w2 ⟨rfl, hb2⟩
    have HB2 := hid hb2
    clear hb2
    go_wp2
    go_ret
    exact ⟨rfl, HB2.out⟩


theorem boxed_cell_on {w W : World} {B : Nat} {t : TypeId} {v : Value} (h : Boxed w B t v) (hb : Below w.heap.size w W) : W.cell? ⟨B, 0, none⟩ = some v :=
  Boxed.cell (show Boxed W B t v from (hb.block B h.lt).trans h)
/-- What areEnough answers. -/
theorem any_map {Us : List (List Int)} {f : List Int → Bool} : (Us.any f) = decide (∃ i, i < Us.length ∧ f (lI Us i) = true) := by
  rw [Bool.eq_iff_iff, List.any_eq_true, decide_eq_true_eq]
  constructor
  · rintro ⟨x, hx, h⟩
    obtain ⟨i, hi, e⟩ := List.getElem_of_mem hx
    refine ⟨i, hi, ?_⟩
    unfold lI
    rw [List.getD_eq_getElem?_getD, List.getElem?_eq_getElem hi, e]
    exact h
  · rintro ⟨i, hi, h⟩
    refine ⟨Us[i], List.getElem_mem _, ?_⟩
    unfold lI at h
    rw [List.getD_eq_getElem?_getD, List.getElem?_eq_getElem hi] at h
    exact h
theorem eU_map {Us : List (List Int)} {i : Nat} (hi : i < Us.length) : eU (Us.map setN) i = setN (lI Us i) := by
  unfold eU lI
  rw [List.getD_eq_getElem?_getD, List.getD_eq_getElem?_getD, List.getElem?_map, List.getElem?_eq_getElem hi]
  rfl
theorem lI_mem {Us : List (List Int)} {i : Nat} (hi : i < Us.length) : lI Us i ∈ Us := by
  unfold lI
  rw [List.getD_eq_getElem?_getD, List.getElem?_eq_getElem hi]
  exact List.getElem_mem _

set_option maxRecDepth 100000 in
set_option maxHeartbeats 4000000 in
theorem iAre_done (M k : Nat) (q : Option Addr) (m c : Nat) (w : World) (h : M = 0 ∨ k = 0) :
    Calls Try.prog 28 #[.slice q m c, .int .u64 (M : Int), .int .i64 (k : Int)] w fun e w' => e = .returned (.bool (decide (M = 0))) ∧ Below w.heap.size w w' := by
  by_cases hM : M = 0
  · subst hM
    clear h
    have HB := hid (bfrom (w := w) (bfrom (bfrom (on_alloc w (.cells #[.slice q m c] 44)) (on_alloc _ (.cells #[.int .u64 ((0 : Nat) : Int)] 45))) (on_alloc _ (.cells #[.int .i64 (k : Int)] 2))) (Below.refl _ _))
    go_enter Try.func28, Try.ntmps28
    go_wp2
    go_ret
    exact ⟨rfl, HB.out⟩
  · have hk : k = 0 := by omega
    subst hk
    have g1 : ((M : Int) == 0) = false := by simp; omega
    have HD := hid (decide_eq_false hM)
    have HB := hid (bfrom (w := w) (bfrom (bfrom (on_alloc w (.cells #[.slice q m c] 44)) (on_alloc _ (.cells #[.int .u64 (M : Int)] 45))) (on_alloc _ (.cells #[.int .i64 ((0 : Nat) : Int)] 2))) (Below.refl _ _))
    clear h hM
    go_enter Try.func28, Try.ntmps28
    go_wp2
    go_ret
    rw [HD.out]
    exact ⟨rfl, HB.out⟩

set_option maxRecDepth 100000 in
set_option maxHeartbeats 8000000 in
theorem iAre_any (Us : List (List Int)) (n m : Nat) (q : Option Addr) (c : Nat) (hn : n ≤ 30) (hm : Us.length = m) (hm9 : m ≤ 1000) (hin : ∀ x, x ∈ Us → ∀ y, y ∈ x → 0 ≤ y ∧ y < (n : Int)) :
    ∀ (k M : Nat) (cov : List Bool) (w : World), k ≤ 1000 → cov.length = n → MissM M cov n → SeesU w q (Us.map setN) →
    Calls Try.prog 28 #[.slice q m c, .int .u64 (M : Int), .int .i64 (k : Int)] w fun e w' => e = .returned (.bool (covB Us n k cov)) ∧ Below w.heap.size w w' := by
  intro k
  induction k with
  | zero =>
    intro M cov w hk hl hM hS
    rw [covB_zero, ← decide_eq_decide.2 hM.zero]
    exact iAre_done M 0 q m c w (.inr rfl)
  | succ k ih =>
    intro M cov w hk hl hM hS
    by_cases h0 : M = 0
    · rw [covB_done _ (hM.zero.1 h0), ← decide_eq_true h0]
      exact iAre_done M (k + 1) q m c w (.inl h0)
    · have hlst : lstF cov n ≠ n := fun e => h0 (hM.zero.2 e)
      have hllt : lstF cov n < n := by have := lstF_le cov n; omega
      have hM30 := hM.lt64 hn
      have hlow := low_and (M := M) (l := lstF cov n) (by omega) (by omega) (by rw [hM (lstF cov n), decide_eq_true hllt, lstF_free cov n hllt]; rfl) (fun j hj => by rw [hM j, lstF_met cov n j hj, Bool.not_true, Bool.and_false])
      rw [covB_go hlst, any_map, hm]
      obtain ⟨l, hl'⟩ : ∃ l, lstF cov n = l := ⟨_, rfl⟩
      rw [hl'] at hlow hllt ⊢
      obtain ⟨r, hR⟩ : ∃ r, decide (∃ i, i < m ∧ (decide ((l : Int) ∈ lI Us i) && covB Us n k (mkC cov (lI Us i))) = true) = r := ⟨_, rfl⟩
      rw [hR]
      have HR := hid hR
      clear hR
      have h2l := pow_30 (v := l) (by omega)
      have HNeg := hid (wrap_neg (M := M) (by omega) hM30)
      have HAnd := hid (show bits .and .u64 (M : Int) ((18446744073709551616 - M : Nat) : Int) = ((2 ^ l : Nat) : Int) by rw [u64_and_nat _ _ (by omega) (by omega), hlow])
      obtain ⟨L, hL⟩ : ∃ L, 2 ^ l = L := ⟨_, rfl⟩
      rw [hL] at h2l HAnd
      have g1 : ((M : Int) == 0) = false := by simp; omega
      have g2 : (((k : Int) + 1) == 0) = false := by simp; omega
      have hq1 := (((Boxed.new w 44 (.slice q m c)).alloc (.cells #[.int .u64 (M : Int)] 45)).alloc (.cells #[.int .i64 ((k : Int) + 1)] 2)).alloc (.cells #[.int .u64 (L : Int)] 45)
      have hq2 := ((Boxed.new (w.alloc (.cells #[.slice q m c] 44)) 45 (.int .u64 (M : Int))).alloc (.cells #[.int .i64 ((k : Int) + 1)] 2)).alloc (.cells #[.int .u64 (L : Int)] 45)
      have hq3 := (Boxed.new ((w.alloc (.cells #[.slice q m c] 44)).alloc (.cells #[.int .u64 (M : Int)] 45)) 2 (.int .i64 ((k : Int) + 1))).alloc (.cells #[.int .u64 (L : Int)] 45)
      have hq4 := Boxed.new (((w.alloc (.cells #[.slice q m c] 44)).alloc (.cells #[.int .u64 (M : Int)] 45)).alloc (.cells #[.int .i64 ((k : Int) + 1)] 2)) 45 (.int .u64 (L : Int))
      have hB4 : Below w.heap.size w ((((w.alloc (.cells #[.slice q m c] 44)).alloc (.cells #[.int .u64 (M : Int)] 45)).alloc (.cells #[.int .i64 ((k : Int) + 1)] 2)).alloc (.cells #[.int .u64 (L : Int)] 45)) := bfrom (bfrom (bfrom (on_alloc _ _) (on_alloc _ _)) (on_alloc _ _)) (on_alloc _ _)
      obtain ⟨w4, hw4⟩ : ∃ w4, w4 = (((w.alloc (.cells #[.slice q m c] 44)).alloc (.cells #[.int .u64 (M : Int)] 45)).alloc (.cells #[.int .i64 ((k : Int) + 1)] 2)).alloc (.cells #[.int .u64 (L : Int)] 45) := ⟨_, rfl⟩
      rw [← hw4] at hq1 hq2 hq3 hq4 hB4
      simp only [World.size_alloc] at hq2 hq3 hq4
      have HB4 := hid hB4
      have HQ := hid (And.intro hq1 (And.intro hq2 (And.intro hq3 hq4)))
      clear hq1 hq2 hq3 hq4 hB4
      have HL := hid hl
      have HM := hid hM
      have HS := hid hS
      have HIH := hid ih
      have HLL := hid hl'
      have HLp := hid hL
      have HW4 := hid hw4
      clear hl hM hS ih hl' hL hlst hlow h0 hw4
      go_enter Try.func28, Try.ntmps28
      go_wp2_with fail
      rw [HNeg.out, HAnd.out, ← HW4.out]
      refine (iContainsU_any q m c _ _ _ _ (Us.map setN) (fun i => decide ((l : Int) ∈ lI Us i) && covB Us n k (mkC cov (lI Us i))) w4 (by rw [List.length_map]; exact hm) hm9 (HS.out.on HB4.out) (fun i hi W hW => ?_)).mono ?_
      · have hx := hin (lI Us i) (lI_mem (by omega))
        have hsm := setN_is (xs := lI Us i) (fun y hy => (hx y hy).1)
        have hlt := setN_lt (xs := lI Us i) (fun y hy => ⟨(hx y hy).1, by have := (hx y hy).2; omega⟩)
        have hit := hsm.hit (l := l)
        rw [HLp.out] at hit
        rw [eU_map (by omega)]
        refine iAreF_any (setN (lI Us i)) L M k q m c _ _ _ _ _ W hlt h2l hM30 (by omega) (boxed_cell_on HQ.out.2.2.2 hW) (boxed_cell_on HQ.out.1 hW) (boxed_cell_on HQ.out.2.1 hW) (boxed_cell_on HQ.out.2.2.1 hW) (fun hz => ?_) (fun hz => ?_)
        · rw [decide_eq_false (hit.1 hz), Bool.false_and]
        · rw [decide_eq_true (Classical.not_not.1 fun h => hz (hit.2 h)), Bool.true_and]
          exact HIH.out _ _ W (by omega) (by rw [mkC_len]; exact HL.out) (HM.out.less hsm (by omega) (by omega) HL.out hx) ((HS.out.on HB4.out).on hW)
      · rw [HR.out]
        rintro e' w5 ⟨rfl, hb5⟩
        have HB5 := hid (bfrom HB4.out hb5)
        clear hb5
        go_wp2
        go_ret
        exact ⟨rfl, HB5.out⟩


set_option maxRecDepth 100000 in
set_option maxHeartbeats 8000000 in
theorem iFew_any (Us : List (List Int)) (n m : Nat) (q : Option Addr) (c : Nat) (hn : 1 ≤ n ∧ n ≤ 30) (hm : Us.length = m) (hm9 : m ≤ 1000) (hin : ∀ x, x ∈ Us → ∀ y, y ∈ x → 0 ≤ y ∧ y < (n : Int)) (hA : AllIn Us n) (w : World) (hS : SeesU w q (Us.map setN)) (M : Nat) (hM : M = 2 ^ n - 1) :
    Calls Try.prog 17 #[.slice q m c, .int .u64 (M : Int)] w fun e w' => e = .returned (.int .i64 ((covN Us n : Nat) : Int)) ∧ Below w.heap.size w w' := by
  have HA := hid (iAre_any Us n m q c hn.2 hm hm9 hin)
  have HS := hid hS
  have HM := hid (show MissM M (List.replicate n false) n by rw [hM]; exact missM_all n)
  have H0 := hid (show covB Us n 0 (List.replicate n false) = false from covB_few (H := 0) (Us := []) (by simp) (by simp) 0 _ (by simp) (by rw [unmF_fresh n n (Nat.le_refl _)]; omega))
  have HT := hid (covB_most hA hin n (List.replicate n false) (by simp) (by rw [unmF_fresh n n (Nat.le_refl _)]; exact Nat.le_refl _))
  clear hS hA hin hm hM
  go_enter Try.func17, Try.ntmps17
  go_wp2
  go_loopw [5] (fun v wr => ∃ k : Nat, 1 ≤ k ∧ k ≤ n ∧ v = .int .i64 k ∧ Hid (∀ j, j < k → covB Us n j (List.replicate n false) = false) ∧ Hid (Below w.heap.size w wr)) (fun v _ => n - (intOf v).toNat)
  case atStart => exact ⟨1, Nat.le_refl _, hn.1, rfl, hid (fun j hj => by obtain rfl : j = 0 := (by omega); exact H0.out), hid (Below.refl _ _)⟩
  case round =>
    obtain ⟨k, hk1, hk, rfl, hE, hB⟩ := hrel
    have HC := hid (HA.out k M (List.replicate n false) wr (by omega) (by simp) HM.out (HS.out.on hB.out))
    cases hp : covB Us n k (List.replicate n false)
    · have hlt : k < n := by
        rcases Nat.lt_or_ge k n with h | h
        · exact h
        · obtain rfl : k = n := by omega
          have h2 := HT.out
          rw [hp] at h2
          cases h2
      go_wp2_with fail
      refine HC.out.mono ?_
      rw [hp]
      rintro e' w2 ⟨rfl, hb2⟩
      have HB2 := hid (bfrom hB.out hb2)
      clear hb2
      go_wp2
      go_roundw
      case rel =>
        refine ⟨k + 1, by omega, by omega, by go_num, hid (fun j hj => ?_), HB2⟩
        rcases Nat.lt_or_ge j k with h | h
        · exact hE.out j h
        · obtain rfl : j = k := by omega
          exact hp
      case measure => simp [intOf]; omega
    · have HN := hid (show covN Us n = k from fstK_is n k _ hk hp hE.out)
      go_wp2_with fail
      refine HC.out.mono ?_
      rw [hp]
      rintro e' w2 ⟨rfl, hb2⟩
      have HB2 := hid (bfrom hB.out hb2)
      clear hb2
      go_wp2
      go_ret
      rw [HN.out]
      exact ⟨rfl, HB2.out⟩

end Go.Proofs.Ytaafbdpdpndplaa

namespace Go.Proofs.Ytaafbdpdpndplaa
open Go.RowKit

/-- Each of n numbers is in one of the lists, as a truth value. -/
def allB (Us : List (List Int)) (n : Nat) : Bool := (List.range n).all fun e => Us.any fun x => decide ((e : Int) ∈ x)
theorem allB_iff {Us : List (List Int)} {n : Nat} : allB Us n = true ↔ AllIn Us n := by
  unfold allB AllIn
  rw [List.all_eq_true]
  constructor
  · intro h e he
    obtain ⟨x, h1, h2⟩ := List.any_eq_true.1 (h e (List.mem_range.2 he))
    exact ⟨x, h1, of_decide_eq_true h2⟩
  · intro h e he
    obtain ⟨x, h1, h2⟩ := h e (List.mem_range.1 he)
    exact List.any_eq_true.2 ⟨x, h1, decide_eq_true h2⟩
/-- What CoverNumber answers. -/
def cvF (Us : List (List Int)) (n : Nat) : Int × Int := if Us.length ≤ 60 then (if allB Us n = true then ((covN Us n : Nat), 0) else (0, 4)) else (0, 3)
def fCoverNumber (s : Int) (es : List (Int × Int)) : Int × Int := if IsG s es then cvF (mtL s.toNat es) es.length else (0, 1)

theorem infoU64 : (Try.prog.info? 45).map (fun i => (i.zero, i.size, i.bytes)) = some (some (.int .u64 0), 1, 8) := by kernel_rfl
def natV (Us : List (List Int)) : List Value := Us.map fun x => Value.int .u64 ((setN x : Nat) : Int)
theorem natV_at {Us : List (List Int)} {i : Nat} (hi : i < Us.length) : (natV Us)[i]? = some (.int .u64 ((eU (Us.map setN) i : Nat) : Int)) := by
  unfold natV eU
  rw [List.getElem?_map, List.getD_eq_getElem?_getD, List.getElem?_map, List.getElem?_eq_getElem hi]
  rfl
theorem seesU_own {w : World} {D P cap : Nat} {q : Option Addr} {Us : List (List Int)} (hP : Us.length = P) (h : w.ownsRow D 45 1 (.slice q P cap) P (natV Us)) : SeesU w q (Us.map setN) := by
  rcases h.2 with ⟨hn, _⟩ | ⟨g, c, cur, hv, _⟩
  · left
    injection hn with e1 e2 e3
    rw [List.map_eq_nil_iff]
    exact List.length_eq_zero_iff.1 (by omega)
  · injection hv with e1 e2 e3
    refine .inr ⟨g, 0, e1, fun i hi => ?_⟩
    rw [List.length_map] at hi
    have h1 := h.cells (g := g) (by rw [e1]; rfl) i _ (natV_at hi)
    rw [Nat.zero_add]
    have e0 : (⟨g, 0, none⟩ : Addr).add i = ⟨g, i, none⟩ := by
      rw [Addr.add_mid, Nat.zero_add]
    rwa [e0] at h1

theorem wrap_all {n : Nat} (hn : n ≤ 30) : IntKind.u64.wrap (IntKind.u64.wrap (2 ^ n) - 1) = ((2 ^ n - 1 : Nat) : Int) := by
  have h1 : 2 ^ n ≤ 2 ^ 30 := Nat.pow_le_pow_right (by omega) hn
  have h2 : 0 < 2 ^ n := Nat.pow_pos (by omega)
  rw [show ((2 : Int) ^ n) = ((2 ^ n : Nat) : Int) by simp]
  obtain ⟨p, hp⟩ : ∃ p, 2 ^ n = p := ⟨_, rfl⟩
  rw [hp] at h1 h2 ⊢
  rw [IntKind.wrap_u64, IntKind.wrap_u64]
  omega

set_option maxRecDepth 100000 in
set_option maxHeartbeats 2000000 in
theorem iCvn_err (s : Int) (p : Option Addr) (n c : Nat) (es : List (Int × Int)) (w : World) (hm : n ≤ 1048576) (hn : es.length = n) (hr : SeesE w p es) (Us : List (List Int)) (E : Int) (hE : fMatchingsOf s es = (Us, E)) (hne : (E != 0) = true) :
    Calls Try.prog 7 #[.agg #[.int .i64 s, .slice p n c]] w fun e' w' => e' = .returned (.tuple #[.int .i64 0, .int .i64 E]) ∧ Below w.heap.size w w' := by
  have Hn := hid hn
  have Hr := hid hr
  have HE := hid hE
  clear hn hr hE
  go_enter Try.func7, Try.ntmps7
  go_wp2_with fail
  refine (iMatchingsOf_any _ _ _ _ es _ hm Hn.out (Hr.out.on (on_alloc _ _))).mono ?_
  rw [HE.out]
  rintro e w2 ⟨q, cap, rfl, _, hb2⟩
  have HB2 := hid (bfrom (w := w) (on_alloc _ _) hb2)
  clear hb2
  go_wp2
  go_ret2
  exact ⟨rfl, HB2.out⟩

set_option maxRecDepth 100000 in
set_option maxHeartbeats 8000000 in
theorem iCvn_yes (N : Nat) (b off n c : Nat) (es : List (Int × Int)) (w : World) (hn : es.length = n) (hr : ReadsE w b off es) (g : IsG N es) (h60 : (mtL N es).length ≤ 60) :
    Calls Try.prog 7 #[.agg #[.int .i64 N, .slice (some ⟨b, off, none⟩) n c]] w fun e' w' => e' = .returned (.tuple #[.int .i64 (cvF (mtL N es) n).1, .int .i64 (cvF (mtL N es) n).2]) ∧ Below w.heap.size w w' := by
  have hn30 : n ≤ 30 := by have := isG_len g; omega
  have hn1 : 1 ≤ n := by
    have := g.1.1.1
    have := g.1.1.2.2.2
    omega
  have HF := hid (show fMatchingsOf N es = (mtL N es, 0) by unfold fMatchingsOf; rw [if_pos g, Int.toNat_natCast]; unfold mcF; rw [if_pos h60])
  have hin : ∀ x, x ∈ mtL N es → ∀ y, y ∈ x → 0 ≤ y ∧ y < (n : Int) := fun x hx y hy => by rw [← hn]; exact mtL_in hx y hy
  have hrow : ∀ x, x ∈ mtL N es → x.length ≤ 20 := fun x hx => by rw [mtL_len hx]; have := g.1.1.2.1; omega
  have hcv : cvF (mtL N es) n = if allB (mtL N es) n = true then (((covN (mtL N es) n : Nat) : Int), 0) else (0, 4) := by unfold cvF; rw [if_pos h60]
  rw [hcv]
  obtain ⟨Us, hUs⟩ : ∃ Us, mtL N es = Us := ⟨_, rfl⟩
  rw [hUs] at HF h60 hin hrow ⊢
  obtain ⟨m, hm⟩ : ∃ m, Us.length = m := ⟨_, rfl⟩
  rw [hm] at h60
  obtain ⟨r, hRr⟩ : ∃ r : Int × Int, (if allB Us n = true then (((covN Us n : Nat) : Int), 0) else (0, 4)) = r := ⟨_, rfl⟩
  rw [hRr]
  have HR := hid hRr
  have Hn := hid hn
  have Hr := hid hr
  have Hin := hid hin
  have HRow := hid hrow
  have HM := hid hm
  obtain ⟨i0, hi, hz0, hz1, hz2⟩ := info_parts infoU64
  have Hi := hid hi
  clear hn hr g hin hrow hcv hUs hm hi hRr
  go_enter Try.func7, Try.ntmps7
  go_wp2_with fail
  refine (iMatchingsOf_any _ _ _ _ es _ (by omega) Hn.out (SeesE.on (.inr ⟨b, off, rfl, Hr.out⟩) (on_alloc _ _))).mono ?_
  rw [HF.out, HM.out]
  rintro e w2 ⟨q, cap, rfl, hf2, hb2⟩
  have HB2 := hid (bfrom (w := w) (on_alloc _ _) hb2)
  have hX2 := (Box.new w N (some ⟨b, off, none⟩) n c 30).on hb2
  have HX2 := hid hX2
  have HSee := hid hf2.sees
  clear hb2 hf2 hX2
  go_wp2
  go_loopw [6, 7, 22] (fun u v i wr => ∃ (k S cap : Nat) (q' : Option Addr), k ≤ m ∧ S < 1073741824 ∧ u = .slice q' k cap ∧ v = .int .u64 S ∧ i = .int .i64 k ∧ Hid (wr.ownsRow w2.heap.size 45 1 (.slice q' k cap) k (natV (Us.take k))) ∧ Hid (UniM S Us k) ∧ Hid (Below w2.heap.size w2 wr)) (fun _ _ i _ => m - (intOf i).toNat)
  case atStart => exact ⟨0, 0, 0, none, Nat.zero_le _, by omega, rfl, rfl, rfl, hid (World.ownsRow_nil _ _ _ _), hid (uniM_nil _), hid (Below.refl _ _)⟩
  case round =>
    obtain ⟨k, S, cap', q', hk, hS, rfl, rfl, rfl, hO, hU, hB⟩ := hrel
    obtain ⟨wo, rfl⟩ : ∃ wo : World, wo = wr := ⟨_, rfl⟩
    have hzo := hB.out.size
    by_cases hlt : k < m
    · have hkl : k < Us.length := by rw [HM.out]; exact hlt
      obtain ⟨b1, o1, rfl, hrd⟩ : ∃ b1 o1, q = some ⟨b1, o1, none⟩ ∧ ReadsL wo b1 o1 Us := by
        rcases HSee.out.on hB.out with h | h
        · rw [h] at hkl; simp at hkl
        · exact h
      obtain ⟨q1, c1, hcell, hsee⟩ := hrd k hkl
      have hb1w := World.block_lt_of_cell? wo _ hcell
      have hmem := lI_mem hkl
      have hUk : Us[k]? = some (lI Us k) := by unfold lI; rw [List.getD_eq_getElem?_getD, List.getElem?_eq_getElem hkl]; rfl
      obtain ⟨xs, hxs⟩ : ∃ xs, lI Us k = xs := ⟨_, rfl⟩
      rw [hxs] at hcell hsee hmem hUk
      obtain ⟨l, hl⟩ : ∃ l, xs.length = l := ⟨_, rfl⟩
      have hl20 : l ≤ 20 := by rw [← hl]; exact HRow.out xs hmem
      rw [hl] at hcell
      have hx := Hin.out xs hmem
      have HX := hid (show ∀ y, y ∈ xs → 0 ≤ y ∧ y < 30 from fun y hy => ⟨(hx y hy).1, by have := (hx y hy).2; omega⟩)
      have HSet := hid (setN_is (xs := xs) (fun y hy => (hx y hy).1))
      have hT := setN_lt HX.out
      have HT1 := hid (hU.out.next hUk HSet.out)
      have HNV := hid (show natV (Us.take (k + 1)) = natV (Us.take k) ++ [.int .u64 ((setN xs : Nat) : Int)] by rw [List.take_add_one, hUk]; unfold natV; simp)
      have HSe := hid hsee
      have HLl := hid hl
      obtain ⟨T, hT2⟩ : ∃ T, setN xs = T := ⟨_, rfl⟩
      rw [hT2] at hT HT1 HNV
      have HOr := hid (u64_or_nat S T (by omega) (by omega))
      have hS9 : S ||| T < 1073741824 := Nat.or_lt_two_pow (n := 30) hS hT
      have HT2 := hid hT2
      clear hrd hsee hmem hUk hxs hl hx hT2
      go_wp2_with fail
      refine (iSetOf_any q1 l c1 xs _ HLl.out (by omega) HSe.out HX.out).mono ?_
      rw [HT2.out]
      rintro e' w4 ⟨rfl, rfl⟩
      go_wp2_with (at_builtin; go_must (refine wpList_append_lies _ rfl (.tmp 28) (.tmp 30) 44 rfl w2.heap.size 45 i0 (.int .u64 0) 1 8 Try.underlying44 Hi.out hz0 hz1 hz2 rfl (by decide) (.slice q' k cap') k _ rfl (hO.out.alloc _) ⟨wo.heap.size, 0, none⟩ 1 1 [.int .u64 T] rfl rfl (World.news_of_block (cs := #[.int .u64 T]) (t := 45) (fr := (0, 0)) (heap_alloc_new _ _)) (by simp [Value.oneCell']) (by decide) (by unfold maxLen; omega) (by omega) (by simp; omega) (wo.heap.size + 1) (by simp) ?_); intro g cap9 w5 hown1 hgrow1 hlie hg1; have Hown := hid hown1; have Hgrow := hid hgrow1; clear hown1 hgrow1 hlie)
      have hrow : ∀ j, (Value.slice q' k cap').ownBlock = some j → w2.heap.size ≤ j ∧ j < wo.heap.size := hO.out.lt
      go_roundw
      case rel =>
        refine ⟨k + 1, S ||| T, _, some ⟨g, 0, none⟩, by omega, hS9, rfl, by rw [HOr.out], by go_num, hid ?_, HT1, hid ?_⟩
        · rw [HNV.out]; exact Hown.out
        · exact (hB.out.alloc hzo _).grown Hgrow.out (by simp; omega) (fun j hj => by have := (hrow j hj).1; omega)
      case measure => simp [intOf]; omega
    · obtain rfl : k = m := by omega
      have hO9 := hO.out
      rw [List.take_of_length_le (by rw [HM.out]; exact Nat.le_refl _)] at hO9
      have HSU := hid (seesU_own HM.out hO9)
      have hU9 := hU.out
      have HAll := hid (UniM.all (n := n) (by rw [HM.out]; exact hU9) Hin.out)
      have HX3 := hid (HX2.out.on hB.out)
      have hx3 := HX3.out.1
      have hy3 := HX3.out.2
      have hz3 := HX3.out.lt
      clear hO9 hU9
      have HW := hid (wrap_all hn30)
      obtain ⟨A, hA⟩ : ∃ A, 2 ^ n - 1 = A := ⟨_, rfl⟩
      have HA := hid hA
      have hWA := wrap_all hn30
      rw [hA] at hWA
      have HB9 := hid (bfrom HB2.out hB.out)
      cases hab : allB Us n
      · have g1 : ((S : Int) != IntKind.u64.wrap (IntKind.u64.wrap (2 ^ n) - 1)) = true := by
          rw [hWA]
          have h2 : ¬ S = A := fun e => by
            have h3 := allB_iff.2 (HAll.out.1 (e.trans hA.symm))
            rw [hab] at h3
            cases h3
          simp
          omega
        have HE := hid (show r = (0, 4) by rw [← HR.out, hab]; rfl)
        clear hA hWA hab
        go_wp2
        go_ret2
        rw [HE.out]
        exact ⟨rfl, HB9.out⟩
      · have HAi := hid (allB_iff.1 hab)
        have g1 : ((S : Int) != IntKind.u64.wrap (IntKind.u64.wrap (2 ^ n) - 1)) = false := by
          rw [hWA]
          have h2 : S = A := (HAll.out.2 HAi.out).trans hA
          simp
          omega
        have HWA := hid hWA
        have HE := hid (show r = (((covN Us n : Nat) : Int), 0) by rw [← HR.out, hab]; rfl)
        clear hA hWA hab
        go_wp2_with fail
        rw [HWA.out]
        refine (iFew_any Us n k q' _ ⟨hn1, hn30⟩ HM.out (by omega) Hin.out HAi.out wo HSU.out A HA.out.symm).mono ?_
        rintro e' w6 ⟨rfl, hb6⟩
        have HB6 := hid (bfrom HB9.out hb6)
        clear hb6
        go_wp2
        go_ret2
        rw [HE.out]
        exact ⟨rfl, HB6.out⟩

theorem iCoverNumber_any (s : Int) (p : Option Addr) (n c : Nat) (es : List (Int × Int)) (w : World) (hm : n ≤ 1048576) (hn : es.length = n) (hr : SeesE w p es) :
    Calls Try.prog 7 #[.agg #[.int .i64 s, .slice p n c]] w fun e' w' => e' = .returned (.tuple #[.int .i64 (fCoverNumber s es).1, .int .i64 (fCoverNumber s es).2]) ∧ Below w.heap.size w w' := by
  unfold fCoverNumber
  by_cases g : IsG s es
  · rw [if_pos g]
    obtain ⟨b, off, rfl, rd⟩ := isG_sees g hr
    obtain ⟨N, rfl⟩ : ∃ N : Nat, s = N := ⟨_, (Int.toNat_of_nonneg (by have := g.1.1.1; omega)).symm⟩
    rw [Int.toNat_natCast]
    by_cases h : (mtL N es).length ≤ 60
    · rw [hn]
      exact iCvn_yes N b off n c es w hn rd g h
    · unfold cvF
      rw [if_neg h]
      exact iCvn_err N (some ⟨b, off, none⟩) n c es w hm hn hr [] 3 (by unfold fMatchingsOf mcF; rw [if_pos g, Int.toNat_natCast, if_neg h]) rfl
  · rw [if_neg g]
    exact iCvn_err s p n c es w hm hn hr [] 1 (by unfold fMatchingsOf; rw [if_neg g]) rfl

end Go.Proofs.Ytaafbdpdpndplaa
