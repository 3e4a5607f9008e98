/- Whether two edges are equal, in the program: hasEqualEdges, by a map. -/
import Derived.Test.YtnimlipogphhmaaMapE
namespace Go.Proofs.Ytnimlipogphhmaa
open Go.RowKit

attribute [local go_sem] Oper.semAt_some

/-- Two edges are equal. -/
def twoEq (es : List (Int × Int)) : Prop := ∃ i j, i < j ∧ j < es.length ∧ eA es i = eA es j ∧ eB es i = eB es j
theorem take_mem {es : List (Int × Int)} {k : Nat} (hk : k ≤ es.length) (x y : Int) : (x, y) ∈ es.take k ↔ ∃ i, i < k ∧ eA es i = x ∧ eB es i = y := by
  constructor
  · intro h
    obtain ⟨i, hi, e⟩ := List.getElem_of_mem h
    rw [List.length_take] at hi
    rw [List.getElem_take] at e
    refine ⟨i, by omega, ?_, ?_⟩
    · rw [eA_lt (by omega), e]
    · rw [eB_lt (by omega), e]
  · rintro ⟨i, hi, rfl, rfl⟩
    rw [eA_lt (by omega), eB_lt (by omega)]
    have h2 : i < (es.take k).length := by rw [List.length_take]; omega
    have h3 := List.getElem_mem h2
    rwa [List.getElem_take] at h3

set_option maxRecDepth 100000 in
set_option maxHeartbeats 8000000 in
theorem iHasEq_any (b off n c : Nat) (es : List (Int × Int)) (w : World) (hn : es.length = n) (hn30 : n ≤ 100) (hr : ReadsE w b off es) (_hb : b < w.heap.size) (hwf : ∀ i, i < es.length → (Lit.int .i64 (eA es i)).wf = true ∧ (Lit.int .i64 (eB es i)).wf = true) :
    Calls Try.prog 32 #[.slice (some ⟨b, off, none⟩) n c] w fun e w' => (∃ r, e = .returned (.bool r) ∧ (r = true ↔ twoEq es)) ∧ Below w.heap.size w w' := by
  have Hn := hid hn
  have Hr := hid hr
  have Hw := hid hwf
  have hmm := @run_makeMap Try.prog
  clear hn hr hwf
  go_enter Try.func32, Try.ntmps32
  go_wp2
  have HM0 := hid (MapB.made w)
  have HB0 := hid (on_alloc w (.map #[] 0))
  go_loopw [9] (fun v wr => ∃ k : Nat, k ≤ n ∧ v = .int .i64 k ∧ Hid (∀ i j, i < j → j < k → ¬ (eA es i = eA es j ∧ eB es i = eB es j)) ∧ Hid (MapB wr w.heap.size k (es.take k)) ∧ Hid (Below w.heap.size w wr)) (fun v _ => n - (intOf v).toNat)
  case atStart => exact ⟨0, Nat.zero_le _, rfl, hid (fun i j _ hj => absurd hj (by omega)), HM0, HB0⟩
  case round =>
    obtain ⟨k, hk, rfl, hE, hM, hB⟩ := hrel
    obtain ⟨wo, rfl⟩ : ∃ wo : World, wo = wr := ⟨_, rfl⟩
    by_cases hlt : k < n
    · have hlt' : (k : Int) < (n : Int) := by omega
      have hkl : k < es.length := by rw [Hn.out]; exact hlt
      obtain ⟨X, hX⟩ : ∃ X, eA es k = X := ⟨_, rfl⟩
      obtain ⟨Y, hY⟩ : ∃ Y, eB es k = Y := ⟨_, rfl⟩
      have hc1 := (Hr.out.on hB.out k hkl).1
      have hc2 := (Hr.out.on hB.out k hkl).2
      have hw1 := Hw.out k hkl
      rw [hX] at hc1 hw1
      rw [hY] at hc2 hw1
      have hbw := World.block_lt_of_cell? wo _ hc1
      dsimp only at hbw
      have hMa := hM.out.on (on_alloc wo (.cells #[.int .i64 X, .int .i64 Y] 56))
      have hlook := hMa.look Try.underlying77 hw1.1 hw1.2
      obtain ⟨w8, hput, hM8, hg8⟩ := hMa.put Try.underlying77 (by unfold maxLen; omega) hw1.1 hw1.2
      have hmem := take_mem (es := es) (k := k) (by omega) X Y
      have HXY := hid (And.intro hX hY)
      have HMem := hid hmem
      have HM8 := hid hM8
      have HG8 := hid hg8
      have hmap := hM.out.lt
      clear hmem hM8 hg8 hX hY hw1 hMa
      by_cases hin : (X, Y) ∈ es.take k
      · rw [decide_eq_true hin] at hlook
        have Hin := hid (HMem.out.1 hin)
        clear hin hput
        go_wp2
        go_ret
        refine ⟨⟨true, rfl, fun _ => ?_, fun _ => rfl⟩, bfrom hB.out (on_alloc _ _)⟩
        obtain ⟨i, h1, h2, h3⟩ := Hin.out
        exact ⟨i, k, h1, hkl, by rw [h2, HXY.out.1], by rw [h3, HXY.out.2]⟩
      · rw [decide_eq_false hin] at hlook
        have Hno := hid (fun h => hin (HMem.out.2 h))
        clear hin
        go_wp2
        go_roundw
        case rel =>
          refine ⟨k + 1, by omega, by go_num, hid (fun i j hij hj => ?_), hid ?_, hid ?_⟩
          · rcases Nat.lt_or_ge j k with h | h
            · exact hE.out i j hij h
            · obtain rfl : j = k := by omega
              exact fun h2 => Hno.out ⟨i, hij, by rw [h2.1, HXY.out.1], by rw [h2.2, HXY.out.2]⟩
          · have h := HM8.out
            rw [← HXY.out.1, ← HXY.out.2] at h
            rwa [show es.take (k + 1) = es.take k ++ [(eA es k, eB es k)] by rw [List.take_add_one, pair_at hkl]; rfl]
          · exact (bfrom hB.out (on_alloc _ _)).grown HG8.out (by simp; have := hB.out.size; omega) (fun j e => by have e1 : w.heap.size = j := Option.some.inj e; omega)
        case measure => simp [intOf]; omega
    · obtain rfl : k = n := by omega
      go_wp2
      go_ret
      refine ⟨⟨false, rfl, fun h => (by cases h), fun h => ?_⟩, hB.out⟩
      obtain ⟨i, j, h1, h2, h3⟩ := h
      exact absurd h3 (hE.out i j h1 (by rw [← Hn.out]; exact h2))

end Go.Proofs.Ytnimlipogphhmaa
