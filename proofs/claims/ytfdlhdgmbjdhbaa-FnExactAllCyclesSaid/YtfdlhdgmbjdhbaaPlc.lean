/- Rows of numbers that lie apart from each other, several in one block perhaps: what the laws do with them. -/
import Derived.Test.YtfdlhdgmbjdhbaaLists
namespace Go.Proofs.Ytfdlhdgmbjdhbaa
open Go.RowKit

/-- Some cells of one block were written, and no others. -/
structure WroteAt (w w' : World) (b o n : Nat) : Prop where
  grown : w.grownBy w' (some b)
  cells : ∀ c p, (c ≠ b ∨ p < o ∨ o + n ≤ p) → w'.cell? ⟨c, p, none⟩ = w.cell? ⟨c, p, none⟩
  frozen : ∀ c p, w'.frozen? ⟨c, p, none⟩ = w.frozen? ⟨c, p, none⟩

/-- Numbers in cells that may be written. -/
def FreeI (w : World) (b o : Nat) (xs : List Int) : Prop := ReadsI w b o xs ∧ ∀ j, j < xs.length → w.frozen? ⟨b, o + j, none⟩ = false

theorem WroteAt.refl (w : World) (b o n : Nat) : WroteAt w w b o n := ⟨World.grownBy.refl w _, fun _ _ _ => rfl, fun _ _ => rfl⟩
theorem WroteAt.set {w w' : World} {b o n p : Nat} (h : WroteAt w w' b o n) (h1 : o ≤ p) (h2 : p < o + n) (v : Value) : WroteAt w (w'.setCell ⟨b, p, none⟩ v) b o n :=
  ⟨gset h.grown p v, fun c r hr => (World.cell?_setCell_other _ _ _ _ (fun e => by simp only [Addr.mk.injEq, and_true] at e; omega)).trans (h.cells c r hr), fun c r => (World.frozen?_setCell ..).trans (h.frozen c r)⟩

set_option maxRecDepth 100000 in
set_option maxHeartbeats 1000000 in
theorem markAt_any (b o c n : Nat) (k0 : Int) (es : List Int) (w : World) (hn : es.length = n) (hlen : n ≤ 1048576) (hk0 : 0 ≤ k0) (hk1 : k0 ≤ 67108864) (ho : FreeI w b o es) :
    Calls Try.prog 51 #[.slice (some ⟨b, o, none⟩) n c, .int .i64 k0] w fun e w' => e = .returned (.int .i64 (k0 + n)) ∧ ReadsI w' b o (marksI k0 n) ∧ WroteAt w w' b o n := by
  have Hn := hid hn
  have Ho := hid ho
  have hl2 : n ≤ 9223372036854775807 := by omega
  have Hl := hid hlen
  have Hk := hid hk1
  clear hn ho hlen hk1
  go_enter Try.func51, Try.ntmps51
  go_wp2
  go_loopw [1, 5] (fun k i wr => ∃ j : Nat, j ≤ n ∧ i = .int .i64 j ∧ k = .int .i64 (k0 + j) ∧ Hid (ReadsI wr b o (marksI k0 j)) ∧ Hid (WroteAt w wr b o n ∧ ∀ p, j ≤ p → p < n → wr.cell? ⟨b, o + p, none⟩ = w.cell? ⟨b, o + p, none⟩)) (fun _ i _ => n - (intOf i).toNat)
  case atStart => exact ⟨0, Nat.zero_le _, rfl, by simp, hid (fun i hi => by simp [marksI] at hi), hid ⟨WroteAt.refl _ _ _ _, fun _ _ _ => rfl⟩⟩
  case round =>
    obtain ⟨j, hj, rfl, rfl, hO, hG⟩ := hrel
    by_cases hlt : j < n
    · have hlt' : (j : Int) < (n : Int) := by omega
      have f1 := (hG.out.1.frozen b (o + j)).trans (Ho.out.2 j (by have := Hn.out; omega))
      have g1 := (hG.out.2 j (Nat.le_refl _) hlt).trans (Ho.out.1 j (by have := Hn.out; omega))
      have hbz : b < wr.heap.size := World.block_lt_of_cell? wr ⟨b, o + j, none⟩ g1
      obtain ⟨q, hq⟩ : ∃ q, k0 + (j : Int) = q := ⟨_, rfl⟩
      have q1 : 0 ≤ q := by omega
      have q2 : q ≤ 9223372036854775000 := by have := Hk.out; have := Hl.out; omega
      rw [hq]
      have HQ := hid hq
      have HG1 := hid g1
      clear hq
      go_wp2
      go_roundw
      case rel =>
        refine ⟨j + 1, by omega, by go_num, ?_, hid (fun i hi => ?_), hid ⟨hG.out.1.set (by omega) (by omega) _, fun p h1 h2 => (World.cell?_setCell_other _ _ _ _ (fun e => by simp only [Addr.mk.injEq, and_true] at e; omega)).trans (hG.out.2 p (by omega) h2)⟩⟩
        · congr 1
          have := HQ.out
          omega
        · rw [marksI_length] at hi
          by_cases e : i = j
          · subst e
            rw [marksI_at (by omega), HQ.out]
            exact World.cell?_setCell_same _ _ _ HG1.out
          · rw [World.cell?_setCell_other _ _ _ _ (fun e2 => by simp only [Addr.mk.injEq, and_true] at e2; omega)]
            have h := hO.out i (by rw [marksI_length]; omega)
            rw [marksI_at (by omega)] at h ⊢
            exact h
      case measure => simp [intOf]; omega
    · obtain rfl : j = n := by omega
      go_wp2
      go_ret
      exact ⟨rfl, hO.out, hG.out.1⟩

/-- Where the rows lie: apart from each other, from block B on. -/
def apartP (Ls : List (List Int)) (pl : Nat → Nat × Nat) : Prop := ∀ i k, i < Ls.length → k < Ls.length → i ≠ k → (pl i).1 ≠ (pl k).1 ∨ (pl i).2 + (lI Ls i).length ≤ (pl k).2 ∨ (pl k).2 + (lI Ls k).length ≤ (pl i).2
structure OwnP (B : Nat) (w : World) (g : Nat) (Ls : List (List Int)) (pl : Nat → Nat × Nat) : Prop where
  le : B ≤ g
  cell : ∀ i, i < Ls.length → ∃ c, w.cell? ⟨g, i, none⟩ = some (.slice (some ⟨(pl i).1, (pl i).2, none⟩) (lI Ls i).length c)
  row : ∀ i, i < Ls.length → B ≤ (pl i).1 ∧ (pl i).1 ≠ g ∧ (pl i).1 < w.heap.size ∧ FreeI w (pl i).1 (pl i).2 (lI Ls i)
  apart : apartP Ls pl
def FreshP (B : Nat) (w : World) (q : Option Addr) (n : Nat) (Ls : List (List Int)) : Prop :=
  Ls.length = n ∧ (n = 0 ∨ ∃ g pl, q = some ⟨g, 0, none⟩ ∧ g < w.heap.size ∧ OwnP B w g Ls pl)

section
variable {w w' : World} {g n B : Nat} {Ls : List (List Int)} {q : Option Addr} {pl : Nat → Nat × Nat}
theorem OwnP.same (h : OwnP B w g Ls pl) (hg : g < w.heap.size) (hz : w.heap.size ≤ w'.heap.size) (hk : ∀ k, B ≤ k → k < w.heap.size → w'.heap[k]? = w.heap[k]?) : OwnP B w' g Ls pl := by
  refine ⟨h.le, fun i hi => ?_, fun i hi => ?_, h.apart⟩
  · obtain ⟨c, h1⟩ := h.cell i hi
    exact ⟨c, (World.cell?_of_block (w := w) (a := ⟨g, i, none⟩) (hk g h.le hg)).trans h1⟩
  · obtain ⟨h1, h2, h3, h4, h5⟩ := h.row i hi
    refine ⟨h1, h2, by omega, h4.keep (hk _ h1 h3), fun j hj => ?_⟩
    exact (World.frozen?_of_block (w := w) (a := ⟨(pl i).1, (pl i).2 + j, none⟩) (hk _ h1 h3)).trans (h5 j hj)
theorem FreshP.on (h : FreshP B w q n Ls) (hb : Below w.heap.size w w') : FreshP B w' q n Ls := by
  rcases h with ⟨hl, h | ⟨g, pl, rfl, hg, h⟩⟩
  · exact ⟨hl, .inl h⟩
  · exact ⟨hl, .inr ⟨g, pl, rfl, by have := hb.size; omega, h.same hg hb.size (fun k _ hk => hb.block k hk)⟩⟩
theorem FreshP.grown (h : FreshP B w q n Ls) {row : Option Nat} (hg' : w.grownBy w' row) (hr : ∀ r, row = some r → r < B) : FreshP B w' q n Ls := by
  rcases h with ⟨hl, h | ⟨g, pl, rfl, hg, h⟩⟩
  · exact ⟨hl, .inl h⟩
  · exact ⟨hl, .inr ⟨g, pl, rfl, by have := hg'.size; omega, h.same hg hg'.size (fun k hB hk => hg'.block k hk (fun e => by have := hr k e.symm; omega))⟩⟩
theorem FreshP.sees (h : FreshP B w q n Ls) : SeesL w q Ls := by
  rcases h with ⟨hl, h | ⟨g, pl, rfl, hg, h⟩⟩
  · exact .inl (List.eq_nil_of_length_eq_zero (hl.trans h))
  · refine .inr ⟨g, 0, rfl, fun i hi => ?_⟩
    obtain ⟨c, h1⟩ := h.cell i hi
    exact ⟨_, c, by rw [Nat.zero_add]; exact h1, .inr ⟨_, _, rfl, (h.row i hi).2.2.2.1⟩⟩
theorem FreshP.less {B' : Nat} (h : FreshP B w q n Ls) (hB : B' ≤ B) : FreshP B' w q n Ls := by
  rcases h with ⟨hl, h | ⟨g, pl, rfl, hg, h⟩⟩
  · exact ⟨hl, .inl h⟩
  · exact ⟨hl, .inr ⟨g, pl, rfl, hg, Nat.le_trans hB h.le, h.cell, fun i hi => ⟨Nat.le_trans hB (h.row i hi).1, (h.row i hi).2⟩, h.apart⟩⟩
theorem OwnP.step (h : OwnP B w g Ls pl) {j : Nat} {ys : List Int} (hj : j < Ls.length) (hw : WroteAt w w' (pl j).1 (pl j).2 (lI Ls j).length) (hl : ys.length = (lI Ls j).length) (hr : ReadsI w' (pl j).1 (pl j).2 ys) : OwnP B w' g (Ls.set j ys) pl := by
  have hlen : ∀ i, (lI (Ls.set j ys) i).length = (lI Ls i).length := fun i => by
    rw [lI_set hj]
    by_cases e : i = j
    · subst e; rw [if_pos rfl, hl]
    · rw [if_neg e]
  refine ⟨h.le, fun i hi => ?_, fun i hi => ?_, fun i k hi hk hik => ?_⟩
  · rw [List.length_set] at hi
    obtain ⟨c, h1⟩ := h.cell i hi
    rw [hlen]
    exact ⟨c, (hw.cells g i (.inl (Ne.symm (h.row j hj).2.1))).trans h1⟩
  · rw [List.length_set] at hi
    obtain ⟨h1, h2, h3, h4, h5⟩ := h.row i hi
    refine ⟨h1, h2, by have := hw.grown.size; omega, ?_⟩
    by_cases e : i = j
    · subst e
      rw [lI_set hj, if_pos rfl]
      exact ⟨hr, fun t ht => (hw.frozen _ _).trans (h5 t (by omega))⟩
    · rw [lI_set hj, if_neg e]
      refine ⟨fun t ht => (hw.cells _ _ ?_).trans (h4 t ht), fun t ht => (hw.frozen _ _).trans (h5 t ht)⟩
      rcases h.apart i j hi hj e with h6 | h6 | h6
      · exact .inl h6
      · exact .inr (.inl (by omega))
      · exact .inr (.inr (by omega))
  · rw [List.length_set] at hi hk
    rw [hlen, hlen]
    exact h.apart i k hi hk hik
end

set_option maxRecDepth 100000 in
set_option maxHeartbeats 2000000 in
theorem markPlc_own (B g cap n T : Nat) (k0 : Int) (Ls : List (List Int)) (pl : Nat → Nat × Nat) (w : World) (hn : Ls.length = n) (hlen : n ≤ 1048576) (hT : sumLL Ls n = T) (hk0 : 0 ≤ k0) (hk1 : k0 + T ≤ 1048576) (hB : B ≤ w.heap.size) (ho : OwnP B w g Ls pl) :
    Calls Try.prog 16 #[.slice (some ⟨g, 0, none⟩) n cap, .int .i64 k0] w fun e w' => e = .returned (.int .i64 (k0 + T)) ∧ OwnP B w' g (markU k0 Ls n) pl ∧ Below B w w' := by
  have Hn := hid hn
  have Ho := hid ho
  have HT := hid hT
  clear hn ho hT
  go_enter Try.func16, Try.ntmps16
  go_wp2
  go_loopw [1, 5] (fun k i wr => ∃ j : Nat, j ≤ n ∧ i = .int .i64 j ∧ k = .int .i64 (k0 + sumLL Ls j) ∧ Hid (OwnP B wr g (markU k0 Ls j) pl) ∧ Hid (Below B w wr)) (fun _ i _ => n - (intOf i).toNat)
  case atStart => exact ⟨0, Nat.zero_le _, rfl, by simp [sumLL], hid Ho.out, hid (Below.refl _ _)⟩
  case round =>
    obtain ⟨j, hj, rfl, rfl, hO, hG⟩ := hrel
    by_cases hlt : j < n
    · have hlt' : (j : Int) < (n : Int) := by omega
      have hjl : j < (markU k0 Ls j).length := by rw [markU_length]; have := Hn.out; omega
      obtain ⟨m, hm⟩ : ∃ m, (lI Ls j).length = m := ⟨_, rfl⟩
      have hlj : lI (markU k0 Ls j) j = lI Ls j := by rw [lI_markU _ _ _ _ (by have := Hn.out; omega), if_neg (by omega)]
      obtain ⟨c, h1⟩ := hO.out.cell j hjl
      have h2 := (hO.out.row j hjl).2.2.2
      have h3 := (hO.out.row j hjl).1
      rw [hlj] at h1 h2
      rw [hm] at h1
      have hgl : g < wr.heap.size := World.block_lt_of_cell? wr ⟨g, j, none⟩ h1
      obtain ⟨bb, oo, hpl⟩ : ∃ bb oo, pl j = (bb, oo) := ⟨_, _, rfl⟩
      rw [hpl] at h1 h2 h3
      dsimp only at h1 h2 h3
      have hsum := sumLL_lt Ls hlt
      rw [hm, HT.out] at hsum
      obtain ⟨z, hz⟩ : ∃ z, k0 + (sumLL Ls j : Int) = z := ⟨_, rfl⟩
      have z1 : 0 ≤ z := by omega
      have z2 : z + m ≤ 1048576 := by omega
      have hml : m ≤ 1048576 := by omega
      rw [hz]
      have HZ := hid hz
      have HM := hid hm
      have H2 := hid h2
      have HPl := hid hpl
      clear hz hm hlj hsum h2 hpl
      obtain ⟨wo, rfl⟩ : ∃ wo : World, wo = wr := ⟨_, rfl⟩
      go_wp2_with fail
      refine (markAt_any bb oo c m z (lI Ls j) _ HM.out hml z1 (by omega) H2.out).mono ?_
      rintro e w7 ⟨rfl, hf, hg⟩
      have hG7 := hid (hG.out.grown hg.grown (Nat.le_trans hB hG.out.size) (fun r hr => by have := Option.some.inj hr; omega))
      have hO7 := hid (hO.out.step (w' := w7) (ys := marksI z m) hjl (by rw [HPl.out, lI_markU _ _ _ _ (by have := Hn.out; omega), if_neg (by omega), HM.out]; exact hg) (by rw [marksI_length, lI_markU _ _ _ _ (by have := Hn.out; omega), if_neg (by omega), HM.out]) (by rw [HPl.out]; exact hf))
      clear hf hg
      go_wp2
      go_roundw
      case rel =>
        refine ⟨j + 1, by omega, by go_num, ?_, hid ?_, hG7⟩
        · congr 1
          have := HZ.out
          have := HM.out
          simp only [sumLL]
          omega
        · have h := hO7.out
          rw [← HZ.out, ← HM.out] at h
          exact h
      case measure => simp [intOf]; omega
    · obtain rfl : j = n := by omega
      go_wp2
      go_ret
      exact ⟨by rw [HT.out]; rfl, hO.out, hG.out⟩

theorem markPlc_k (B n cap T : Nat) (q : Option Addr) (k0 : Int) (Ls : List (List Int)) (w : World) (hlen : n ≤ 1048576) (hT : sumLL Ls n = T) (hk0 : 0 ≤ k0) (hk1 : k0 + T ≤ 1048576) (hB : B ≤ w.heap.size) (h : FreshP B w q n Ls) :
    Calls Try.prog 16 #[.slice q n cap, .int .i64 k0] w fun e w' => e = .returned (.int .i64 (k0 + T)) ∧ FreshP B w' q n (markU k0 Ls n) ∧ Below B w w' := by
  obtain ⟨hl, rfl | ⟨g, pl, rfl, hg, ho⟩⟩ := h
  · refine (markLists_nil q cap k0 w).mono fun e w' ⟨he, hw⟩ => ?_
    subst hw
    subst hT
    exact ⟨by rw [he]; simp [sumLL], ⟨by rw [markU_length]; exact hl, .inl rfl⟩, Below.refl _ _⟩
  · exact (markPlc_own B g cap n T k0 Ls pl w hl hlen hT hk0 hk1 hB ho).mono fun e w' ⟨he, ho', hb⟩ => ⟨he, ⟨by rw [markU_length]; exact hl, .inr ⟨g, pl, rfl, by have := hb.size; omega, ho'⟩⟩, hb⟩

end Go.Proofs.Ytfdlhdgmbjdhbaa
