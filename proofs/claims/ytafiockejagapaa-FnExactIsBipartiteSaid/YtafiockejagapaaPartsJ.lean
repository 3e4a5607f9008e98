/- Parts as lists of lists; PartsOf in the program and in the model. -/
import Derived.Test.YtafiockejagapaaLists
import Derived.Test.YtafiockejagapaaPartsI
import Derived.Test.YtafiockejagapaaLeadS
namespace Go.Proofs.Ytafiockejagapaa
open Go.RowKit

def partsL (N : Nat) (es : List (Int × Int)) : List (List Int) := (leadU N es N).map fun v => reachU N es v N
def fPartsOf (s : Int) (es : List (Int × Int)) : List (List Int) × Int := if IsG s es then (partsL s.toNat es, 0) else ([], 1)
theorem partsL_len (N : Nat) (es : List (Int × Int)) : (partsL N es).length = (leadU N es N).length := List.length_map _
theorem lI_parts {N i : Nat} {es : List (Int × Int)} (h : i < (leadU N es N).length) : lI (partsL N es) i = reachU N es ((leadU N es N).getD i 0) N := by
  unfold lI partsL
  rw [List.getD_eq_getElem?_getD, List.getElem?_map, List.getD_eq_getElem?_getD, List.getElem?_eq_getElem h]
  rfl

theorem PartsM.fresh {w : World} {B N : Nat} {es : List (Int × Int)} {K cap : Nat} {q : Option Addr} {vals : List Value} (h : PartsM w B N es N K cap q vals) : FreshL B w q K cap (partsL N es) := by
  obtain ⟨h1, h2, h3, h4, h5⟩ := h
  refine ⟨by rw [partsL_len, h2], ?_⟩
  rcases h1.2 with ⟨e, h0⟩ | ⟨gq, cap', cur, hv, hb, hg, hn, hm, hs, ht⟩
  · injection e with e1 e2 e3
    exact .inl ⟨e1, h0, e3⟩
  · injection hv with v1 v2 v3
    subst v3
    have hcur : ∀ i, i < K → cur[i]? = vals[i]? := fun i hi => by
      have e : (cur.toList.take (K * 1))[i]? = cur.toList[i]? := by rw [List.getElem?_take, if_pos (by omega)]
      rw [ht] at e
      rw [← Array.getElem?_toList, ← e]
    refine .inr ⟨gq, v1, cur, hg, by omega, by rw [partsL_len, h2]; omega, hm, hb, fun i hi => ?_, fun i j v u hi hj hij hvi huj => ?_⟩
    · rw [partsL_len, h2] at hi
      obtain ⟨g, m, c, e1, e2, e3, e4⟩ := h4 i hi
      rw [lI_parts (by omega)]
      exact ⟨some ⟨g, 0, none⟩, c, by rw [hcur i hi, e1, e3], FreshI.of_own e4 rfl e2⟩
    · rw [partsL_len, h2] at hi hj
      obtain ⟨g, m, c, e1, _⟩ := h4 i hi
      obtain ⟨g', m', c', e1', _⟩ := h4 j hj
      rw [hcur i hi, e1] at hvi
      rw [hcur j hj, e1'] at huj
      obtain rfl := Option.some.inj hvi
      obtain rfl := Option.some.inj huj
      refine .inr (fun e => ?_)
      have e6 : g = g' := Option.some.inj e
      rcases Nat.lt_or_ge i j with hl | hl
      · have := h5 i j g m c g' m' c' hl hj e1 e1'; omega
      · have := h5 j i g' m' c' g m c (by omega) hi e1' e1; omega

theorem reach_from {N : Nat} {es : List (Int × Int)} {v : Nat} (he : EndsIn N es) (hv : v < N) (hl : leadB N es v = true) : reachU N es v v = [] := by
  unfold reachU
  rw [List.map_eq_nil_iff, List.filter_eq_nil_iff]
  intro u hu
  have hu' := List.mem_range.1 hu
  rw [reachB_iff he hv (by omega)]
  exact fun hc => (leadB_iff he hv).1 hl u hu' hc.symm

end Go.Proofs.Ytafiockejagapaa
