/- Circular colourings in the program: nearRows, codeOfCircle, IsCircular. -/
import Derived.Test.YtonlpihbpbnnmaaNearI
import Derived.Test.YtonlpihbpbnnmaaRowsO
import Derived.Test.YtonlpihbpbnnmaaSuitI
import Derived.Test.YtonlpihbpbnnmaaImplG
namespace Go.Proofs.Ytonlpihbpbnnmaa
open Go.RowKit

set_option maxRecDepth 100000 in
set_option maxHeartbeats 4000000 in
theorem iNearF_any (s : Int) (B b off n c i j : Nat) (es : List (Int × Int)) (w : World) (hn : es.length = n) (hr : ReadsE w b off es) (hX : Box w B s (some ⟨b, off, none⟩) n c) (hi : i < n) (hj : j < n) :
    Calls Try.prog 119 #[.int .i64 i, .int .i64 j, .pointer (some ⟨B, 0, none⟩)] w fun e' w' => e' = .returned (.bool (nearB es i j)) ∧ Below w.heap.size w w' := by
  have hbl : b < w.heap.size := reads_lt hr (by omega)
  obtain ⟨k1, k2⟩ := hr i (by omega)
  obtain ⟨k3, k4⟩ := hr j (by omega)
  obtain ⟨r, hR⟩ : ∃ r, nearB es i j = r := ⟨_, rfl⟩
  rw [hR]
  have HR := hid (show meetB (eA es i) (eB es i) (eA es j) (eB es j) = r from hR)
  obtain ⟨x, hx⟩ : ∃ x, eA es i = x := ⟨_, rfl⟩
  obtain ⟨y, hy⟩ : ∃ y, eB es i = y := ⟨_, rfl⟩
  obtain ⟨z, hz⟩ : ∃ z, eA es j = z := ⟨_, rfl⟩
  obtain ⟨t, ht⟩ : ∃ t, eB es j = t := ⟨_, rfl⟩
  rw [hx] at k1 HR
  rw [hy] at k2 HR
  rw [hz] at k3 HR
  rw [ht] at k4 HR
  have hx1 := hX.1
  have hx2 := hX.2
  have hx3 := hX.lt
  have hi' : (i : Int) < (n : Int) := by omega
  have hj' : (j : Int) < (n : Int) := by omega
  clear hn hr hX hR hx hy hz ht
  go_enter Try.func119, Try.ntmps119
  go_wp2
  go_still_tail 10, (by kernel_rfl)
  go_wp2_with fail
  refine (iHave_any x y z t _).mono ?_
  rw [HR.out]
  rintro e' w2 ⟨rfl, hb2⟩
  have HB2 := hid (show Below w.heap.size w w2 from ⟨hb2.os, hb2.tape, hb2.output, hb2.size, hb2.block⟩)
  clear hb2
  go_wp2
  go_ret
  exact ⟨rfl, HB2.out⟩

set_option maxRecDepth 100000 in
set_option maxHeartbeats 4000000 in
theorem iNearRows_any (s : Int) (b off n c : Nat) (es : List (Int × Int)) (w : World) (hn : es.length = n) (hr : ReadsE w b off es) (h2n : 2 ≤ n) (hn2 : n ≤ 30) :
    Calls Try.prog 65 #[.agg #[.int .i64 s, .slice (some ⟨b, off, none⟩) n c]] w fun e' w' => (∃ q, e' = .returned (.slice q n n) ∧ SeesL w' q (rowsM (nearB es) n)) ∧ Below w.heap.size w w' := by
  have Hn := hid hn
  have Hr := hid hr
  have HX := hid (Box.new w s (some ⟨b, off, none⟩) n c 30)
  have HB1 := hid (on_alloc w (.cells #[.int .i64 s, .slice (some ⟨b, off, none⟩) n c] 30))
  have eg : ∀ args w, (callFunc 119 args).run Try.prog w = .ok (.enter 119 args) w := enters_of Try.func119 (by kernel_rfl) rfl
  clear hn hr
  go_enter Try.func65, Try.ntmps65
  go_wp2_with fail
  refine (iRowsOf_any n 119 _ (nearB es) _ eg h2n (by omega) (fun i j hij hi W hW => iNearF_any s _ b off n c i j es W Hn.out (Hr.out.on (bfrom HB1.out hW)) (HX.out.on hW) hi (by omega))).mono ?_
  rintro e' w2 ⟨⟨q, rfl, hs⟩, hb2⟩
  have HB2 := hid (bfrom HB1.out hb2)
  have HS := hid hs
  clear hb2 hs
  go_wp2
  go_ret
  exact ⟨⟨q, rfl, HS.out⟩, HB2.out⟩

def circCode (s : Int) (es : List (Int × Int)) (k d : Int) : Int := if IsG s es then (if circOk k d then 0 else 2) else 1

set_option maxRecDepth 100000 in
set_option maxHeartbeats 4000000 in
theorem iCodeC_any (s k d : Int) (p : Option Addr) (n c : Nat) (es : List (Int × Int)) (w : World) (hm : n ≤ 1048576) (hn : es.length = n) (hr : SeesE w p es) :
    Calls Try.prog 63 #[.agg #[.int .i64 s, .slice p n c], .int .i64 k, .int .i64 d] w fun e' w' => e' = .returned (.int .i64 (circCode s es k d)) ∧ Below w.heap.size w w' := by
  have Hn := hid hn
  have Hr := hid hr
  clear hn hr
  unfold circCode
  by_cases g : IsG s es
  · rw [if_pos g]
    have G := hid g
    clear g
    obtain ⟨r, hR⟩ : ∃ r : Int, (if circOk k d then (0 : Int) else 2) = r := ⟨_, rfl⟩
    rw [hR]
    have HR := hid hR
    clear hR
    by_cases h1 : k < 2
    · go_enter Try.func63, Try.ntmps63
      go_wp2_with fail
      refine (iIsGraph_any _ _ _ _ es _ hm Hn.out (Hr.out.on (on_alloc _ _))).mono ?_
      rw [decide_eq_true G.out]
      rintro e' w2 ⟨rfl, hb2⟩
      have HB2 := hid (bfrom (w := w) (on_alloc _ _) hb2)
      clear hb2
      go_wp2
      go_ret
      exact ⟨by rw [← HR.out, if_neg (fun h => by have := h.1.1; omega)]; rfl, HB2.out⟩
    · by_cases h2 : 14 < k
      · go_enter Try.func63, Try.ntmps63
        go_wp2_with fail
        refine (iIsGraph_any _ _ _ _ es _ hm Hn.out (Hr.out.on (on_alloc _ _))).mono ?_
        rw [decide_eq_true G.out]
        rintro e' w2 ⟨rfl, hb2⟩
        have HB2 := hid (bfrom (w := w) (on_alloc _ _) hb2)
        clear hb2
        go_wp2
        go_ret
        exact ⟨by rw [← HR.out, if_neg (fun h => by have := h.1.2; omega)]; rfl, HB2.out⟩
      · have hk0 : 0 ≤ k := by omega
        go_enter Try.func63, Try.ntmps63
        go_wp2_with fail
        refine (iIsGraph_any _ _ _ _ es _ hm Hn.out (Hr.out.on (on_alloc _ _))).mono ?_
        rw [decide_eq_true G.out]
        rintro e' w2 ⟨rfl, hb2⟩
        have HB2 := hid (bfrom (w := w) (on_alloc _ _) hb2)
        clear hb2
        go_wp2
        all_goals
          go_ret
          refine ⟨congrArg (fun b => Ending.returned (Value.int .i64 b)) ?_, HB2.out⟩
          rw [← HR.out]
          first
            | rw [if_neg (fun h => by have := h.2; omega)]
            | rw [if_pos (show circOk k d by unfold circOk; omega)]
  · rw [if_neg g]
    have G := hid g
    clear g
    go_enter Try.func63, Try.ntmps63
    go_wp2_with fail
    refine (iIsGraph_any _ _ _ _ es _ hm Hn.out (Hr.out.on (on_alloc _ _))).mono ?_
    rw [decide_eq_false G.out]
    rintro e' w2 ⟨rfl, hb2⟩
    have HB2 := hid (bfrom (w := w) (on_alloc _ _) hb2)
    clear hb2
    go_wp2
    go_ret
    exact ⟨rfl, HB2.out⟩

end Go.Proofs.Ytonlpihbpbnnmaa
