/- Rows of numbers are seen as a list of lists. -/
import Derived.Test.YtaafbdpdpndplaaRowsM
import Derived.Test.YtaafbdpdpndplaaLists
namespace Go.Proofs.Ytaafbdpdpndplaa
open Go.RowKit

theorem RowsM.seesL {w : World} {B cap : Nat} {q : Option Addr} {Ls : List (List Int)} {vals : List Value} (h : RowsM w B Ls cap q vals) : SeesL w q Ls := by
  obtain ⟨h1, h2, h3⟩ := h
  rcases h1.2 with ⟨_, h0⟩ | ⟨g, cap', cur, hv, hb, hg, hn, hm, hs, ht⟩
  · exact .inl (List.eq_nil_of_length_eq_zero h0)
  · injection hv with v1 v2 v3
    subst v1
    refine .inr ⟨g, 0, rfl, fun i hi => ?_⟩
    obtain ⟨g', c, e1, _, e3⟩ := h3 i hi
    refine ⟨some ⟨g', 0, none⟩, c, ?_, e3.sees⟩
    rw [Nat.zero_add, cell_of_row w g _ cur _ _ hg]
    have h4 : (cur.toList.take (Ls.length * 1))[i]? = cur.toList[i]? := by rw [List.getElem?_take, if_pos (by omega)]
    rw [ht, e1] at h4
    rw [← Array.getElem?_toList, ← h4]
    rfl

end Go.Proofs.Ytaafbdpdpndplaa
