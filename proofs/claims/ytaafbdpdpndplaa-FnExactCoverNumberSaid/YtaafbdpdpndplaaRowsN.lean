/- Rows that hold the headers of rows of numbers. Cut out of NcR. -/
import Derived.Test.YtaafbdpdpndplaaLawsF
import Derived.Shelf.Abstract
import Derived.WalkKit
namespace Go.Proofs.Ytaafbdpdpndplaa
open Go.RowKit

attribute [local go_sem] Oper.semAt_some

theorem infoSlN : (Try.prog.info? 46).map (fun i => (i.zero, i.size, i.bytes)) = some (some (.slice none 0 0), 1, 24) := by kernel_rfl
def rowsN (n : Nat) (gf cf : Nat → Nat) (k : Nat) : List Value := (List.range k).map fun i => Value.slice (some ⟨gf i, 0, none⟩) n (cf i)
def updN (f : Nat → Nat) (k a i : Nat) : Nat := if i = k then a else f i
theorem rowsN_push (n : Nat) (gf cf : Nat → Nat) (k g c : Nat) : rowsN n (updN gf k g) (updN cf k c) (k + 1) = rowsN n gf cf k ++ [.slice (some ⟨g, 0, none⟩) n c] := by
  unfold rowsN
  rw [List.range_succ, List.map_append]
  congr 1
  · refine List.map_congr_left fun i hi => ?_
    have h : i < k := List.mem_range.1 hi
    unfold updN
    rw [if_neg (by omega), if_neg (by omega)]
  · simp [updN]
theorem rowsN_at {n k i : Nat} {gf cf : Nat → Nat} (hi : i < k) : (rowsN n gf cf k)[i]? = some (.slice (some ⟨gf i, 0, none⟩) n (cf i)) := by
  unfold rowsN
  rw [List.getElem?_map, List.getElem?_range hi]
  rfl
theorem rowN_same {w w' : World} {B n sz : Nat} {e : TypeId} {v : Value} {xs : List Value} (h : w.ownsRow B e sz v n xs) (hk : ∀ k cur t fr, B ≤ k → w.heap[k]? = some (Obj.cells cur t fr) → w'.heap[k]? = w.heap[k]?) : w'.ownsRow B e sz v n xs := by
  refine ⟨h.1, ?_⟩
  rcases h.2 with hn | ⟨g, c, cur, hv, hb, hg, r⟩
  · exact .inl hn
  · exact .inr ⟨g, c, cur, hv, hb, (hk g _ _ _ hb hg).trans hg, r⟩
theorem row_formN {w : World} {B n sz : Nat} {e : TypeId} {v : Value} {xs : List Value} (h : w.ownsRow B e sz v n xs) : ∃ q cap, v = .slice q n cap := by
  rcases h.2 with ⟨rfl, h0⟩ | ⟨g, cap, cur, rfl, _⟩
  · exact ⟨none, 0, by rw [h0]⟩
  · exact ⟨_, _, rfl⟩

end Go.Proofs.Ytaafbdpdpndplaa
