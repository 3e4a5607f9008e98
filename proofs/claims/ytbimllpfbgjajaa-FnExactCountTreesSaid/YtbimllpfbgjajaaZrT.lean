/- Rows of zeros, made one after the other: a matrix. Cut out of TreeT. -/
import Derived.Test.YtbimllpfbgjajaaTreeM
import Derived.Test.YtbimllpfbgjajaaRowsN
import Derived.Test.YtbimllpfbgjajaaRowsM
import Derived.Deep.AppendLies
import Derived.Deep.DeepMust
namespace Go.Proofs.Ytbimllpfbgjajaa
open Go.RowKit

attribute [local go_sem] Oper.semAt_some

/-- Rows of zeros, each with a block of its own. -/
structure ZrT (W : World) (B n K : Nat) (gf cf : Nat → Nat) : Prop where
  row : ∀ i, i < K → B ≤ gf i ∧ OwnI W (gf i) (cf i) (List.replicate n 0)
  apart : ∀ i k, i < K → k < K → i ≠ k → gf i ≠ gf k

theorem zr_push {W w3 w4 w8 : World} {B n K cap cap8 g8 : Nat} {q : Option Addr} {gf cf : Nat → Nat} {g3 c3 : Nat} (hrow : W.ownsRow B 34 1 (.slice q K cap) K (rowsN n gf cf K)) (hZ : ZrT W B n K gf cf) (hB : B ≤ W.heap.size)
    (ho3 : OwnI w3 g3 c3 (List.replicate n 0)) (hg3 : W.heap.size ≤ g3) (hb3 : Below W.heap.size W w3) (hb4 : Below w3.heap.size w3 w4)
    (hown : w8.ownsRow B 34 1 (.slice (some ⟨g8, 0, none⟩) (K + 1) cap8) (K + 1) (rowsN n gf cf K ++ [.slice (some ⟨g3, 0, none⟩) n c3])) (hgrow : w4.grownBy w8 (Value.slice q K cap).ownBlock) :
    w8.ownsRow B 34 1 (.slice (some ⟨g8, 0, none⟩) (K + 1) cap8) (K + 1) (rowsN n (updN gf K g3) (updN cf K c3) (K + 1)) ∧ ZrT w8 B n (K + 1) (updN gf K g3) (updN cf K c3) := by
  have hz3 := hb3.size
  have hz4 := hb4.size
  refine ⟨by rw [rowsN_push]; exact hown, ⟨fun i hi => ?_, fun i j hi hj hij => ?_⟩⟩
  · unfold updN
    by_cases e : i = K
    · rw [if_pos e, if_pos e]
      have hne : some g3 ≠ (Value.slice q K cap).ownBlock := fun e2 => by
        have := (hrow.lt g3 e2.symm).2
        omega
      exact ⟨by omega, ho3.keep ((hgrow.block g3 (by have := ho3.lt; omega) hne).trans (hb4.block g3 ho3.lt))⟩
    · rw [if_neg e, if_neg e]
      obtain ⟨h1, h2⟩ := hZ.row i (by omega)
      have hl := h2.lt
      exact ⟨h1, h2.keep ((hgrow.block (gf i) (by omega) (row_nei hrow h2)).trans ((hb4.block _ (by omega)).trans (hb3.block _ hl)))⟩
  · unfold updN
    by_cases e : i = K
    · have e2 : j ≠ K := by omega
      rw [if_pos e, if_neg e2]
      have := (hZ.row j (by omega)).2.lt
      omega
    · rw [if_neg e]
      by_cases e2 : j = K
      · rw [if_pos e2]
        have := (hZ.row i (by omega)).2.lt
        omega
      · rw [if_neg e2]
        exact hZ.apart i j (by omega) (by omega) hij

theorem zr_mat {W : World} {B n cap : Nat} {q : Option Addr} {gf cf : Nat → Nat} (hrow : W.ownsRow B 34 1 (.slice q n cap) n (rowsN n gf cf n)) (hZ : ZrT W B n n gf cf) (hn : 0 < n) : ∃ g, q = some ⟨g, 0, none⟩ ∧ MatAt W B n g gf cf (fun _ _ => 0) := by
  rcases hrow.2 with ⟨_, h0⟩ | ⟨g, cap', cur, hv, hb, hg, hn', hm, hs, ht⟩
  · omega
  · injection hv with v1 v2 v3
    refine ⟨g, v1, ⟨fun i hi => ?_, fun i hi => ?_, fun i hi => ⟨(hZ.row i hi).1, fun e => ?_⟩, hZ.apart⟩⟩
    · rw [cell_of_row W g _ cur _ _ hg]
      have h4 : (cur.toList.take (n * 1))[i]? = cur.toList[i]? := by rw [List.getElem?_take, if_pos (by omega)]
      rw [ht, rowsN_at hi] at h4
      rw [← Array.getElem?_toList, ← h4]
    · have h := (hZ.row i hi).2
      rwa [show List.replicate n (0 : Int) = rowT n (fun _ => 0) by
        unfold rowT
        rw [List.map_const', List.length_range]] at h
    · exact row_nei hrow (hZ.row i hi).2 (by rw [e]; show some g = (Value.slice q n cap).ownBlock; rw [v1]; rfl)

end Go.Proofs.Ytbimllpfbgjajaa
