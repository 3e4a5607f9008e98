/- Rows of rows of numbers in memory, and what the laws do with them: compare, mark, look whether the marks hold. -/
import Derived.Test.YtfdlhdgmbjdhbaaLawsF
import Derived.Deep.RegionWith
namespace Go.Proofs.Ytfdlhdgmbjdhbaa
open Go.RowKit

/-- The i-th of some lists. -/
def lI (Ls : List (List Int)) (i : Nat) : List Int := Ls.getD i []
theorem lI_lt {Ls : List (List Int)} {i : Nat} (h : i < Ls.length) : Ls[i]? = some (lI Ls i) := by
  unfold lI
  rw [List.getD_eq_getElem?_getD, List.getElem?_eq_getElem h]
  rfl

def ReadsL (w : World) (b off : Nat) (Ls : List (List Int)) : Prop :=
  ∀ i, i < Ls.length → ∃ q c, w.cell? ⟨b, off + i, none⟩ = some (.slice q (lI Ls i).length c) ∧ SeesI w q (lI Ls i)
def SeesL (w : World) (p : Option Addr) (Ls : List (List Int)) : Prop := Ls = [] ∨ ∃ b off, p = some ⟨b, off, none⟩ ∧ ReadsL w b off Ls

/-- A row of rows of the call's own, from block B on: each row in a block of its own. -/
def OwnL (B : Nat) (w : World) (g cap : Nat) (Ls : List (List Int)) : Prop :=
  ∃ cur, w.heap[g]? = some (.cells cur 41 (0, 0)) ∧ cur.size = cap ∧ Ls.length ≤ cap ∧ cap ≤ maxLen ∧ B ≤ g ∧
    (∀ i, i < Ls.length → ∃ q c, cur[i]? = some (.slice q (lI Ls i).length c) ∧ FreshI B w q (lI Ls i).length c (lI Ls i)) ∧
    (∀ i j v u, i < Ls.length → j < Ls.length → i ≠ j → cur[i]? = some v → cur[j]? = some u → v.ownBlock = none ∨ v.ownBlock ≠ u.ownBlock)
def FreshL (B : Nat) (w : World) (q : Option Addr) (n cap : Nat) (Ls : List (List Int)) : Prop :=
  Ls.length = n ∧ ((q = none ∧ n = 0 ∧ cap = 0) ∨ ∃ g, q = some ⟨g, 0, none⟩ ∧ OwnL B w g cap Ls)

section
variable {w w' : World} {b off g cap n B : Nat} {Ls : List (List Int)} {p q : Option Addr}
theorem ReadsL.on (h : ReadsL w b off Ls) (hb : Below w.heap.size w w') : ReadsL w' b off Ls := fun i hi => by
  obtain ⟨q, c, h1, h2⟩ := h i hi
  have hl : b < w.heap.size := World.block_lt_of_cell? w ⟨b, off + i, none⟩ h1
  exact ⟨q, c, (World.cell?_of_block (w := w) (hb.block b hl)).trans h1, h2.on hb⟩
theorem SeesL.on (h : SeesL w p Ls) (hb : Below w.heap.size w w') : SeesL w' p Ls := by
  rcases h with h | ⟨b, off, hp, h⟩
  · exact .inl h
  · exact .inr ⟨b, off, hp, h.on hb⟩
theorem own_lt {q : Option Addr} {m c : Nat} {xs : List Int} {r : Nat} (h : FreshI B w q m c xs) (hr : r < B) : (Value.slice q m c).ownBlock = none ∨ (Value.slice q m c).ownBlock ≠ some r := by
  cases ho : (Value.slice q m c).ownBlock with
  | none => exact .inl rfl
  | some b => exact .inr (fun e => by have := (h.own ho).1; injection e with e; omega)
theorem OwnL.lt (h : OwnL B w g cap Ls) : g < w.heap.size := by
  obtain ⟨cur, hc, _⟩ := h
  exact (Array.getElem?_eq_some_iff.1 hc).1
theorem OwnL.grown (h : OwnL B w g cap Ls) {row : Option Nat} (hg : w.grownBy w' row) (hr : ∀ r, row = some r → r < B) : OwnL B w' g cap Ls := by
  have hl := h.lt
  obtain ⟨cur, hc, h1, h2, h3, h4, h5, h6⟩ := h
  refine ⟨cur, (hg.block g hl (fun e => by have := hr g e.symm; omega)).trans hc, h1, h2, h3, h4, fun i hi => ?_, h6⟩
  obtain ⟨q, c, e1, e2⟩ := h5 i hi
  refine ⟨q, c, e1, e2.kept hg ?_⟩
  cases hrow : row with
  | none =>
    cases ho : (Value.slice q (lI Ls i).length c).ownBlock with
    | none => exact .inl rfl
    | some b => exact .inr (by simp)
  | some r => exact own_lt e2 (hr r hrow)
theorem OwnL.on (h : OwnL B w g cap Ls) (hb : Below w.heap.size w w') : OwnL B w' g cap Ls := h.grown (grown_below hb) (fun r e => by cases e)
theorem OwnL.reads (h : OwnL B w g cap Ls) : ReadsL w g 0 Ls := fun i hi => by
  obtain ⟨cur, hc, h1, h2, h3, h4, h5, h6⟩ := h
  obtain ⟨q, c, e1, e2⟩ := h5 i hi
  exact ⟨q, c, by rw [Nat.zero_add]; exact (cell_of_row w g _ cur _ _ hc).trans e1, e2.sees⟩
theorem FreshL.sees (h : FreshL B w q n cap Ls) : SeesL w q Ls := by
  rcases h with ⟨hl, ⟨_, h, _⟩ | ⟨g, rfl, h⟩⟩
  · exact .inl (List.eq_nil_of_length_eq_zero (hl.trans h))
  · exact .inr ⟨g, 0, rfl, h.reads⟩
theorem FreshL.grown (h : FreshL B w q n cap Ls) {row : Option Nat} (hg : w.grownBy w' row) (hr : ∀ r, row = some r → r < B) : FreshL B w' q n cap Ls := by
  rcases h with ⟨hl, h | ⟨g, rfl, h⟩⟩
  · exact ⟨hl, .inl h⟩
  · exact ⟨hl, .inr ⟨g, rfl, h.grown hg hr⟩⟩
theorem FreshL.on (h : FreshL B w q n cap Ls) (hb : Below w.heap.size w w') : FreshL B w' q n cap Ls := h.grown (grown_below hb) (fun r e => by cases e)
end

set_option maxRecDepth 100000 in
set_option maxHeartbeats 1000000 in
theorem eqLists_self (p q : Option Addr) (n c d : Nat) (Ls : List (List Int)) (w : World) (hx : Ls.length = n) (hn : n ≤ 1048576) (hm : ∀ i, i < n → (lI Ls i).length ≤ 1048576) (hp : SeesL w p Ls) (hq : SeesL w q Ls) :
    Calls Try.prog 15 #[.slice p n c, .slice q n d] w fun e w' => e = .returned (.bool true) ∧ Below w.heap.size w w' := by
  have Hx := hid hx
  have Hp := hid hp
  have Hq := hid hq
  have Hm := hid hm
  clear hx hp hq hm
  go_enter Try.func15, Try.ntmps15
  go_wp2
  go_loopw [5] (fun i wr => ∃ k : Nat, k ≤ n ∧ i = .int .i64 k ∧ Hid (Below w.heap.size w wr)) (fun i _ => n - (intOf i).toNat)
  case atStart => exact ⟨0, Nat.zero_le _, rfl, hid (Below.refl _ _)⟩
  case round =>
    obtain ⟨k, hk, rfl, hB⟩ := hrel
    by_cases hlt : k < n
    · obtain ⟨b, off, rfl, hr⟩ : ∃ b off, p = some ⟨b, off, none⟩ ∧ ReadsL w b off Ls := by
        rcases Hp.out with h | h
        · have := Hx.out; rw [h] at this; simp at this; omega
        · exact h
      obtain ⟨b', off', rfl, hs⟩ : ∃ b off, q = some ⟨b, off, none⟩ ∧ ReadsL w b off Ls := by
        rcases Hq.out with h | h
        · have := Hx.out; rw [h] at this; simp at this; omega
        · exact h
      obtain ⟨q1, c1, h1, s1⟩ := hr.on hB.out k (by have := Hx.out; omega)
      obtain ⟨q2, c2, h2, s2⟩ := hs.on hB.out k (by have := Hx.out; omega)
      obtain ⟨m, hm⟩ : ∃ m, (lI Ls k).length = m := ⟨_, rfl⟩
      have hm1 : m ≤ 1048576 := by rw [← hm]; exact Hm.out k hlt
      rw [hm] at h1 h2
      have HM := hid hm
      have S1 := hid s1
      have S2 := hid s2
      clear hr hs s1 s2 hm
      obtain ⟨wo, rfl⟩ : ∃ wo : World, wo = wr := ⟨_, rfl⟩
      go_wp2
      go_region_with (go_at_call 23; refine (eqInts_self _ _ _ _ _ (lI Ls k) _ HM.out (by omega) ((by first | exact S1.out | exact S1.out.on (by go_grown))) ((by first | exact S2.out | exact S2.out.on (by go_grown)))).mono ?_; rintro e' w7 ⟨rfl, hb7⟩)
      all_goals
        go_wp2
        go_roundw
        case rel => exact ⟨k + 1, by omega, by go_num, hid (by first | exact bfrom hB.out hb7 | exact bfrom hB.out.drew hb7 | exact (bfrom hB.out.drew hb7).drew | exact (bfrom hB.out hb7).drew)⟩
        case measure => simp [intOf]; omega
    · go_wp2
      go_ret
      exact ⟨rfl, hB.out⟩

/- Marks. -/
def sumLL (Ls : List (List Int)) : Nat → Nat
  | 0 => 0
  | j + 1 => sumLL Ls j + (lI Ls j).length
def markU (k0 : Int) (Ls : List (List Int)) : Nat → List (List Int)
  | 0 => Ls
  | j + 1 => (markU k0 Ls j).set j (marksI (k0 + sumLL Ls j) (lI Ls j).length)
theorem markU_length (k0 : Int) (Ls : List (List Int)) (j : Nat) : (markU k0 Ls j).length = Ls.length := by
  induction j with
  | zero => rfl
  | succ j ih => rw [markU, List.length_set, ih]
theorem lI_set {Ls : List (List Int)} {k i : Nat} {x : List Int} (hk : k < Ls.length) : lI (Ls.set k x) i = if i = k then x else lI Ls i := by
  unfold lI
  rw [List.getD_eq_getElem?_getD, List.getD_eq_getElem?_getD, List.getElem?_set]
  by_cases h : i = k
  · subst h; simp [hk]
  · simp [Ne.symm h, h]
theorem lI_markU (k0 : Int) (Ls : List (List Int)) (j i : Nat) (hj : j ≤ Ls.length) : lI (markU k0 Ls j) i = if i < j then marksI (k0 + sumLL Ls i) (lI Ls i).length else lI Ls i := by
  induction j with
  | zero => rfl
  | succ j ih =>
    rw [markU, lI_set (by rw [markU_length]; omega), ih (by omega)]
    by_cases h : i = j
    · subst h; rw [if_pos rfl, if_pos (by omega)]
    · rw [if_neg h]
      by_cases h2 : i < j
      · rw [if_pos h2, if_pos (by omega)]
      · rw [if_neg h2, if_neg (by omega)]
theorem sumLL_mono (Ls : List (List Int)) {i j : Nat} (h : i ≤ j) : sumLL Ls i ≤ sumLL Ls j := by
  induction j with
  | zero => obtain rfl : i = 0 := by omega
            exact Nat.le_refl _
  | succ j ih =>
    rcases Nat.lt_or_ge i (j + 1) with h2 | h2
    · have := ih (by omega); simp only [sumLL]; omega
    · obtain rfl : i = j + 1 := by omega
      exact Nat.le_refl _
theorem sumLL_lt (Ls : List (List Int)) {i n : Nat} (h : i < n) : sumLL Ls i + (lI Ls i).length ≤ sumLL Ls n := sumLL_mono Ls (show i + 1 ≤ n by omega)

section
variable {w w' : World} {g cap n B : Nat} {Ls : List (List Int)}
theorem row_other {cur : Array Value} {m c : Nat} {q : Option Addr} {xs : List Int} (hg : w.heap[g]? = some (.cells cur 41 (0, 0))) (h : FreshI B w q m c xs) : some g ≠ (Value.slice q m c).ownBlock := fun e => by
  rcases h.form with ⟨rfl, _⟩ | ⟨g', rfl, _, cur', hc', _⟩
  · cases e
  · have e1 : g = g' := Option.some.inj e
    subst e1
    have e2 := Option.some.inj (hg.symm.trans hc')
    injection e2 with _ e3
    exact absurd e3 (by decide)
theorem OwnL.step (h : OwnL B w g cap Ls) {j m c : Nat} {q : Option Addr} {ys : List Int} (hj : j < Ls.length) (hq : w.cell? ⟨g, j, none⟩ = some (.slice q m c)) (hg : w.grownBy w' (Value.slice q m c).ownBlock) (hf : FreshI B w' q m c ys) (hl : ys.length = (lI Ls j).length) : OwnL B w' g cap (Ls.set j ys) := by
  have hlt := h.lt
  obtain ⟨cur, hc, h1, h2, h3, h4, h5, h6⟩ := h
  have hcj : cur[j]? = some (.slice q m c) := (cell_of_row w g _ cur _ _ hc).symm.trans hq
  have hm : m = ys.length := hf.2.symm
  obtain ⟨qj, cj, ej1, ej2⟩ := h5 j hj
  have hne : some g ≠ (Value.slice q m c).ownBlock := by
    have e := Option.some.inj (hcj.symm.trans ej1)
    rw [e]
    exact row_other hc ej2
  refine ⟨cur, (hg.block g hlt hne).trans hc, h1, by rw [List.length_set]; exact h2, h3, h4, fun i hi => ?_, fun i k v u hi hk => h6 i k v u (by rwa [List.length_set] at hi) (by rwa [List.length_set] at hk)⟩
  rw [List.length_set] at hi
  rw [lI_set hj]
  by_cases e : i = j
  · subst e
    rw [if_pos rfl]
    subst hm
    exact ⟨q, c, hcj, hf⟩
  · rw [if_neg e]
    obtain ⟨q', c', e1, e2⟩ := h5 i hi
    exact ⟨q', c', e1, e2.kept hg (h6 i j _ _ hi hj e e1 hcj)⟩
end

set_option maxRecDepth 100000 in
set_option maxHeartbeats 2000000 in
theorem markLists_own (B g cap n T : Nat) (k0 : Int) (Ls : List (List Int)) (w : World) (hn : Ls.length = n) (hlen : n ≤ 1048576) (hT : sumLL Ls n = T) (hk0 : 0 ≤ k0) (hk1 : k0 + T ≤ 1048576) (hB : B ≤ w.heap.size) (ho : OwnL B w g cap Ls) :
    Calls Try.prog 16 #[.slice (some ⟨g, 0, none⟩) n cap, .int .i64 k0] w fun e w' => e = .returned (.int .i64 (k0 + T)) ∧ OwnL B w' g cap (markU k0 Ls n) ∧ Below B w w' := by
  have Hn := hid hn
  have Ho := hid ho
  have HT := hid hT
  clear hn ho hT
  go_enter Try.func16, Try.ntmps16
  go_wp2
  go_loopw [1, 5] (fun k i wr => ∃ j : Nat, j ≤ n ∧ i = .int .i64 j ∧ k = .int .i64 (k0 + sumLL Ls j) ∧ Hid (OwnL B wr g cap (markU k0 Ls j)) ∧ Hid (Below B w wr)) (fun _ i _ => n - (intOf i).toNat)
  case atStart => exact ⟨0, Nat.zero_le _, rfl, by simp [sumLL], hid Ho.out, hid (Below.refl _ _)⟩
  case round =>
    obtain ⟨j, hj, rfl, rfl, hO, hG⟩ := hrel
    by_cases hlt : j < n
    · have hjl : j < (markU k0 Ls j).length := by rw [markU_length]; have := Hn.out; omega
      obtain ⟨m, hm⟩ : ∃ m, (lI Ls j).length = m := ⟨_, rfl⟩
      have hlj : lI (markU k0 Ls j) j = lI Ls j := by rw [lI_markU _ _ _ _ (by have := Hn.out; omega), if_neg (by omega)]
      obtain ⟨q, c, h1, h2⟩ : ∃ q c, wr.cell? ⟨g, j, none⟩ = some (.slice q m c) ∧ FreshI B wr q m c (lI Ls j) := by
        obtain ⟨cur, hc, _, _, _, _, h5, _⟩ := hO.out
        obtain ⟨q, c, e1, e2⟩ := h5 j hjl
        rw [hlj, hm] at e1 e2
        exact ⟨q, c, (cell_of_row wr g _ cur _ _ hc).trans e1, e2⟩
      have hsum := sumLL_lt Ls hlt
      rw [hm, HT.out] at hsum
      obtain ⟨z, hz⟩ : ∃ z, k0 + (sumLL Ls j : Int) = z := ⟨_, rfl⟩
      have z1 : 0 ≤ z := by omega
      have z2 : z + m ≤ 1048576 := by omega
      have hml : m ≤ 1048576 := by omega
      rw [hz]
      have HZ := hid hz
      have HM := hid hm
      have H1 := hid h1
      have H2 := hid h2
      clear hz hm hlj hsum h2
      have hgl : j < cap := by
        obtain ⟨cur, hc, e1, e2, _⟩ := hO.out
        omega
      obtain ⟨wo, rfl⟩ : ∃ wo : World, wo = wr := ⟨_, rfl⟩
      go_wp2_with fail
      refine (markInts_k m c q z (lI Ls j) _ hml z1 (by omega) H2.out).mono ?_
      rintro e w7 ⟨rfl, hf, hg⟩
      have hG7 := hid (hG.out.grown hg (Nat.le_trans hB hG.out.size) (fun r hr => ((H2.out.own hr)).1))
      have hO7 := hid (hO.out.step hjl H1.out hg hf (by rw [marksI_length, lI_markU _ _ _ _ (by have := Hn.out; omega), if_neg (by omega), HM.out]))
      clear hf hg
      go_wp2
      go_roundw
      case rel =>
        refine ⟨j + 1, by omega, by go_num, ?_, hid ?_, hG7⟩
        · congr 1
          have := HZ.out
          have := HM.out
          simp only [sumLL]
          omega
        · have h := hO7.out
          rw [← HZ.out, ← HM.out] at h
          exact h
      case measure => simp [intOf]; omega
    · obtain rfl : j = n := by omega
      go_wp2
      go_ret
      exact ⟨by rw [HT.out]; rfl, hO.out, hG.out⟩

set_option maxRecDepth 100000 in
set_option maxHeartbeats 1000000 in
theorem markLists_nil (p : Option Addr) (c : Nat) (k0 : Int) (w : World) :
    Calls Try.prog 16 #[.slice p 0 c, .int .i64 k0] w fun e w' => e = .returned (.int .i64 k0) ∧ w = w' := by
  go_enter Try.func16, Try.ntmps16
  go_wp2
  go_rounds 1
  go_ret
  exact ⟨rfl, rfl⟩

theorem markLists_k (B n cap T : Nat) (q : Option Addr) (k0 : Int) (Ls : List (List Int)) (w : World) (hlen : n ≤ 1048576) (hT : sumLL Ls n = T) (hk0 : 0 ≤ k0) (hk1 : k0 + T ≤ 1048576) (hB : B ≤ w.heap.size) (h : FreshL B w q n cap Ls) :
    Calls Try.prog 16 #[.slice q n cap, .int .i64 k0] w fun e w' => e = .returned (.int .i64 (k0 + T)) ∧ FreshL B w' q n cap (markU k0 Ls n) ∧ Below B w w' := by
  obtain ⟨hl, ⟨rfl, rfl, rfl⟩ | ⟨g, rfl, ho⟩⟩ := h
  · refine (markLists_nil none 0 k0 w).mono fun e w' ⟨he, hw⟩ => ?_
    subst hw
    subst hT
    exact ⟨by rw [he]; simp [sumLL], ⟨hl, .inl ⟨rfl, rfl, rfl⟩⟩, Below.refl _ _⟩
  · exact (markLists_own B g cap n T k0 Ls w hl hlen hT hk0 hk1 hB ho).mono fun e w' ⟨he, ho', hb⟩ => ⟨he, ⟨by rw [markU_length]; exact hl, .inr ⟨g, rfl, ho'⟩⟩, hb⟩

set_option maxRecDepth 100000 in
set_option maxHeartbeats 2000000 in
theorem heldInts_k (n c : Nat) (p : Option Addr) (k0 : Int) (w : World) (hlen : n ≤ 1048576) (hk0 : 0 ≤ k0) (hk1 : k0 ≤ 67108864) (hr : SeesI w p (marksI k0 n)) :
    Calls Try.prog 52 #[.slice p n c, .int .i64 k0] w fun e w' => e = .returned (.int .i64 (k0 + n)) ∧ w = w' := by
  have Hr := hid hr
  have hl2 : n ≤ 9223372036854775807 := by omega
  have Hl := hid hlen
  have Hk := hid hk1
  clear hr hlen hk1
  go_enter Try.func52, Try.ntmps52
  go_wp2
  go_loop [1, 5] (fun k i => ∃ j : Nat, j ≤ n ∧ i = .int .i64 j ∧ k = .int .i64 (k0 + j)) (fun _ i => n - (intOf i).toNat)
  case atStart => exact ⟨0, Nat.zero_le _, rfl, by simp⟩
  case round =>
    obtain ⟨j, hj, rfl, rfl⟩ := hrel
    by_cases hlt : j < n
    · obtain ⟨b, off, rfl, hrd⟩ : ∃ b off, p = some ⟨b, off, none⟩ ∧ ReadsI w b off (marksI k0 n) := by
        rcases Hr.out with h | h
        · have := congrArg List.length h; rw [marksI_length] at this; simp at this; omega
        · exact h
      have g1 := hrd j (by rw [marksI_length]; exact hlt)
      rw [marksI_at hlt] at g1
      clear hrd
      obtain ⟨q, hq⟩ : ∃ q, k0 + (j : Int) = q := ⟨_, rfl⟩
      have q1 : 0 ≤ q := by omega
      have q2 : q ≤ 9223372036854775000 := by have := Hl.out; have := Hk.out; omega
      rw [hq] at g1 ⊢
      have HQ := hid hq
      have n1 : (q != q) = false := by simp
      clear hq
      go_wp2
      go_round
      case rel =>
        refine ⟨j + 1, by omega, by go_num, ?_⟩
        congr 1
        have := HQ.out
        omega
      case measure => simp [intOf]; omega
    · obtain rfl : j = n := by omega
      go_wp2
      go_ret
      exact ⟨rfl, rfl⟩

set_option maxRecDepth 100000 in
set_option maxHeartbeats 2000000 in
theorem heldLists_sees (n c T : Nat) (p : Option Addr) (k0 : Int) (Ls : List (List Int)) (w : World) (hn : Ls.length = n) (hlen : n ≤ 1048576) (hT : sumLL Ls n = T) (hk0 : 0 ≤ k0) (hk1 : k0 + T ≤ 1048576) (hr : SeesL w p (markU k0 Ls n)) :
    Calls Try.prog 17 #[.slice p n c, .int .i64 k0] w fun e w' => e = .returned (.int .i64 (k0 + T)) ∧ w = w' := by
  have Hn := hid hn
  have Hr := hid hr
  have HT := hid hT
  clear hn hr hT
  go_enter Try.func17, Try.ntmps17
  go_wp2
  go_loop [1, 5] (fun k i => ∃ j : Nat, j ≤ n ∧ i = .int .i64 j ∧ k = .int .i64 (k0 + sumLL Ls j)) (fun _ i => n - (intOf i).toNat)
  case atStart => exact ⟨0, Nat.zero_le _, rfl, by simp [sumLL]⟩
  case round =>
    obtain ⟨j, hj, rfl, rfl⟩ := hrel
    by_cases hlt : j < n
    · obtain ⟨b, off, rfl, hrd⟩ : ∃ b off, p = some ⟨b, off, none⟩ ∧ ReadsL w b off (markU k0 Ls n) := by
        rcases Hr.out with h | h
        · have h2 := congrArg List.length h; rw [markU_length, Hn.out] at h2; simp at h2; omega
        · exact h
      obtain ⟨q, c1, h1, s1⟩ := hrd j (by rw [markU_length]; have := Hn.out; omega)
      rw [lI_markU _ _ _ _ (by have := Hn.out; omega), if_pos hlt] at h1 s1
      rw [marksI_length] at h1
      obtain ⟨m, hm⟩ : ∃ m, (lI Ls j).length = m := ⟨_, rfl⟩
      have hsum := sumLL_lt Ls hlt
      rw [hm, HT.out] at hsum
      obtain ⟨z, hz⟩ : ∃ z, k0 + (sumLL Ls j : Int) = z := ⟨_, rfl⟩
      have z1 : 0 ≤ z := by omega
      have z2 : z + m ≤ 1048576 := by omega
      have hml : m ≤ 1048576 := by omega
      rw [hm] at h1 s1
      rw [hz] at s1 ⊢
      have HZ := hid hz
      have HM := hid hm
      have S1 := hid s1
      clear hz hm hsum hrd s1
      go_wp2_with fail
      refine (heldInts_k m c1 q z _ hml z1 (by omega) S1.out).mono ?_
      rintro e w7 ⟨rfl, rfl⟩
      have z3 : ¬ (z + (m : Int) < 0) := by omega
      go_wp2
      go_round
      case rel =>
        refine ⟨j + 1, by omega, by go_num, ?_⟩
        congr 1
        have := HZ.out
        have := HM.out
        simp only [sumLL]
        omega
      case measure => simp [intOf]; omega
    · obtain rfl : j = n := by omega
      go_wp2
      go_ret
      exact ⟨by rw [HT.out]; rfl, rfl⟩

theorem Box.below {w w' : World} {M B n c : Nat} {s : Int} {p : Option Addr} (h : Box w B s p n c) (hb : Below M w w') (hl : B < M) : Box w' B s p n c :=
  ⟨(World.cell?_of_block (w := w) (hb.block B hl)).trans h.1, (World.cell?_of_block (w := w) (hb.block B hl)).trans h.2⟩
theorem sumLL_le {Ls : List (List Int)} {m : Nat} (h : ∀ i, i < Ls.length → (lI Ls i).length ≤ m) (n : Nat) (hn : n ≤ Ls.length) : sumLL Ls n ≤ n * m := by
  induction n with
  | zero => exact Nat.zero_le _
  | succ n ih =>
    have h1 := ih (by omega)
    have h2 := h n (by omega)
    rw [Nat.succ_mul]
    simp only [sumLL]
    omega

end Go.Proofs.Ytfdlhdgmbjdhbaa
