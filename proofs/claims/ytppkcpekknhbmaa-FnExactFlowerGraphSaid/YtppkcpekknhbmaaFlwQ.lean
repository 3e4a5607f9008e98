/- FlowerGraph at any argument, in the model and in the program. -/
import Derived.Test.YtppkcpekknhbmaaFlwS
import Derived.Test.YtppkcpekknhbmaaFlwP
namespace Go.Proofs.Ytppkcpekknhbmaa
open Go.RowKit Go.Lib

set_option maxHeartbeats 2000000 in
set_option maxRecDepth 100000 in
theorem sFlower_no (k : Int) (w : World) (h : ¬ (k = 3 ∨ k = 5)) :
    Calls Try.prog 39 #[.int .i64 k] w fun e w' => e = .returned (.tuple #[.agg #[.int .i64 0, .slice none 0 0], .int .i64 2]) ∧ Below w.heap.size w w' := by
  have t1 : (k != 3) = true := by simp; omega
  have t2 : (k != 5) = true := by simp; omega
  clear h
  go_enter Try.func39, Try.ntmps39
  go_wp2
  refine bodyPost_ret (v := .tuple #[.agg #[.int .i64 0, .slice none 0 0], .int .i64 2]) (by simp [results, Try.results39, go_sem]) rfl ⟨rfl, ?_⟩
  go_grown
set_option maxHeartbeats 2000000 in
set_option maxRecDepth 100000 in
theorem iFlower_no (k : Int) (w : World) (h : ¬ (k = 3 ∨ k = 5)) :
    Calls Try.prog 40 #[.int .i64 k] w fun e w' => e = .returned (.tuple #[.agg #[.int .i64 0, .slice none 0 0], .int .i64 2]) ∧ Below w.heap.size w w' := by
  have t1 : (k != 3) = true := by simp; omega
  have t2 : (k != 5) = true := by simp; omega
  clear h
  go_enter Try.func40, Try.ntmps40
  go_wp2
  refine bodyPost_ret (v := .tuple #[.agg #[.int .i64 0, .slice none 0 0], .int .i64 2]) (by simp [results, Try.results40, go_sem]) rfl ⟨rfl, ?_⟩
  go_grown

theorem sFlowerGraph_any (k : Int) (w : World) :
    Calls Try.prog 39 #[.int .i64 k] w fun e' w' => ∃ q cap, e' = .returned (.tuple #[.agg #[.int .i64 (fFlowerGraph k).1, .slice q (fFlowerGraph k).2.1.length cap], .int .i64 (fFlowerGraph k).2.2]) ∧ FreshE w.heap.size w' q (fFlowerGraph k).2.1.length cap (fFlowerGraph k).2.1 ∧ Below w.heap.size w w' := by
  unfold fFlowerGraph
  by_cases h : k = 3 ∨ k = 5
  · rw [if_pos h]
    obtain ⟨K, rfl⟩ : ∃ K : Nat, k = K := ⟨k.toNat, by omega⟩
    have hl : (sortE (flM K)).length = 6 * K := by rw [sortE_length, flM_len]
    simp only [Int.toNat_natCast]
    rw [hl]
    exact sFlower_yes K w (by omega)
  · rw [if_neg h]
    exact (sFlower_no k w h).mono fun e w' ⟨he, hb⟩ => ⟨none, 0, he, FreshE.nil _ _, hb⟩
theorem iFlowerGraph_any (k : Int) (w : World) :
    Calls Try.prog 40 #[.int .i64 k] w fun e' w' => ∃ q cap, e' = .returned (.tuple #[.agg #[.int .i64 (fFlowerGraph k).1, .slice q (fFlowerGraph k).2.1.length cap], .int .i64 (fFlowerGraph k).2.2]) ∧ FreshE w.heap.size w' q (fFlowerGraph k).2.1.length cap (fFlowerGraph k).2.1 ∧ Below w.heap.size w w' := by
  unfold fFlowerGraph
  by_cases h : k = 3 ∨ k = 5
  · rw [if_pos h]
    obtain ⟨K, rfl⟩ : ∃ K : Nat, k = K := ⟨k.toNat, by omega⟩
    have hl : (sortE (flM K)).length = 6 * K := by rw [sortE_length, flM_len]
    simp only [Int.toNat_natCast]
    rw [hl]
    exact iFlower_yes K w (by omega)
  · rw [if_neg h]
    exact (iFlower_no k w h).mono fun e w' ⟨he, hb⟩ => ⟨none, 0, he, FreshE.nil _ _, hb⟩

end Go.Proofs.Ytppkcpekknhbmaa
