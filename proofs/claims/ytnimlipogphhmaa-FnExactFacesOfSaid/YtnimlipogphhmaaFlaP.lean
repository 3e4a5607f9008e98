/- Lists one after the other in one block lie apart. Cut out of CosQ. -/
import Derived.Test.YtnimlipogphhmaaPlc
import Derived.Test.YtnimlipogphhmaaFlat
import Derived.Test.YtnimlipogphhmaaMovB
namespace Go.Proofs.Ytnimlipogphhmaa
open Go.RowKit

/-- Lists one after the other in one block lie apart. -/
theorem FreshP.flat {w : World} {B n cap ba m : Nat} {q : Option Addr} {Ls : List (List Int)} (hr : w.ownsRow B 35 1 (.slice q n cap) n (rowsV ba Ls)) (hl : Ls.length = n) (ho : OwnI w ba m Ls.flatten) (hB : B ≤ ba) : FreshP B w q n Ls := by
  refine ⟨hl, ?_⟩
  rcases hr.2 with ⟨_, h0⟩ | ⟨g, cap', cur, hv, hb, hg, hn, hm, hs, ht⟩
  · exact .inl h0
  · injection hv with v1 v2 v3
    subst v1
    have hgz : g < w.heap.size := (Array.getElem?_eq_some_iff.1 hg).1
    have hne : ba ≠ g := fun e => by
      subst e
      obtain ⟨cur2, hc2, _⟩ := ho
      have := Option.some.inj (hg.symm.trans hc2)
      injection this with _ h2
      exact absurd h2 (by decide)
    refine .inr ⟨g, fun i => (ba, sumLL Ls i), rfl, hgz, hb, fun i hi => ⟨(lI Ls i).length, ?_⟩, fun i hi => ⟨hB, hne, ho.lt, fun j hj => ?_, fun j hj => ho.free _⟩, fun i k hi hk hik => .inr ?_⟩
    · rw [cell_of_row w g _ cur _ _ hg]
      have h1 : (cur.toList.take (n * 1))[i]? = cur.toList[i]? := by rw [List.getElem?_take, if_pos (by omega)]
      rw [ht, rowsV_at hi] at h1
      rw [← Array.getElem?_toList, ← h1]
    · have h1 := ho.reads (sumLL Ls i + j) (by have h := sumLL_lt Ls hi; have h2 := sumLL_flat Ls; omega)
      rw [Nat.zero_add, flat_at Ls i j hi hj] at h1
      exact h1
    · rcases Nat.lt_or_ge i k with h | h
      · exact .inl (sumLL_lt Ls h)
      · exact .inr (sumLL_lt Ls (by omega))

end Go.Proofs.Ytnimlipogphhmaa
