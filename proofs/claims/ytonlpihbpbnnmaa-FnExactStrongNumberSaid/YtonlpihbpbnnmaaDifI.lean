/- Tests of lists that differ where rows tell, in the program: closeRows, areDifferent. -/
import Derived.Test.YtonlpihbpbnnmaaCirI
import Derived.Test.YtonlpihbpbnnmaaGoK
namespace Go.Proofs.Ytonlpihbpbnnmaa
open Go.RowKit

set_option maxRecDepth 100000 in
set_option maxHeartbeats 4000000 in
theorem iCloseRF_any (s : Int) (B b off n c i j : Nat) (es : List (Int × Int)) (w : World) (hn : es.length = n) (hn2 : n ≤ 30) (hr : ReadsE w b off es) (hX : Box w B s (some ⟨b, off, none⟩) n c) (hi : i < n) (hj : j < n) :
    Calls Try.prog 120 #[.int .i64 i, .int .i64 j, .pointer (some ⟨B, 0, none⟩)] w fun e' w' => e' = .returned (.bool (closeB es i j)) ∧ Below w.heap.size w w' := by
  have hbl : b < w.heap.size := reads_lt hr (by omega)
  obtain ⟨k1, k2⟩ := hr i (by omega)
  obtain ⟨k3, k4⟩ := hr j (by omega)
  obtain ⟨x, hx⟩ : ∃ x, eA es i = x := ⟨_, rfl⟩
  obtain ⟨y, hy⟩ : ∃ y, eB es i = y := ⟨_, rfl⟩
  obtain ⟨z, hz⟩ : ∃ z, eA es j = z := ⟨_, rfl⟩
  obtain ⟨t, ht⟩ : ∃ t, eB es j = t := ⟨_, rfl⟩
  rw [hx] at k1
  rw [hy] at k2
  rw [hz] at k3
  rw [ht] at k4
  have HXY := hid (And.intro (And.intro hx.symm hy.symm) (And.intro hz.symm ht.symm))
  have Hn := hid hn
  have Hr := hid hr
  have hx1 := hX.1
  have hx2 := hX.2
  have hx3 := hX.lt
  have hi' : (i : Int) < (n : Int) := by omega
  have hj' : (j : Int) < (n : Int) := by omega
  clear hn hr hX hx hy hz ht
  go_enter Try.func120, Try.ntmps120
  go_wp2
  go_still_tail 11, (by kernel_rfl)
  go_wp2_with fail
  refine (iAreClose2_any s b off n c i j es _ Hn.out hn2 (Hr.out.on (Below.refl _ _).drew) x y z t HXY.out.1 HXY.out.2 (by omega)).mono ?_
  rintro e' w2 ⟨rfl, hb2⟩
  have HB2 := hid (show Below w.heap.size w w2 from ⟨hb2.os, hb2.tape, hb2.output, hb2.size, hb2.block⟩)
  clear hb2
  go_wp2
  go_ret
  exact ⟨rfl, HB2.out⟩

set_option maxRecDepth 100000 in
set_option maxHeartbeats 4000000 in
theorem iCloseRows_any (s : Int) (b off n c : Nat) (es : List (Int × Int)) (w : World) (hn : es.length = n) (hr : ReadsE w b off es) (h2n : 2 ≤ n) (hn2 : n ≤ 30) :
    Calls Try.prog 69 #[.agg #[.int .i64 s, .slice (some ⟨b, off, none⟩) n c]] w fun e' w' => (∃ q, e' = .returned (.slice q n n) ∧ SeesL w' q (rowsM (closeB es) n)) ∧ Below w.heap.size w w' := by
  have Hn := hid hn
  have Hr := hid hr
  have HX := hid (Box.new w s (some ⟨b, off, none⟩) n c 30)
  have HB1 := hid (on_alloc w (.cells #[.int .i64 s, .slice (some ⟨b, off, none⟩) n c] 30))
  have eg : ∀ args w, (callFunc 120 args).run Try.prog w = .ok (.enter 120 args) w := enters_of Try.func120 (by kernel_rfl) rfl
  clear hn hr
  go_enter Try.func69, Try.ntmps69
  go_wp2_with fail
  refine (iRowsOf_any n 120 _ (closeB es) _ eg h2n (by omega) (fun i j hij hi W hW => iCloseRF_any s _ b off n c i j es W Hn.out hn2 (Hr.out.on (bfrom HB1.out hW)) (HX.out.on hW) hi (by omega))).mono ?_
  rintro e' w2 ⟨⟨q, rfl, hs⟩, hb2⟩
  have HB2 := hid (bfrom HB1.out hb2)
  have HS := hid hs
  clear hb2 hs
  go_wp2
  go_ret
  exact ⟨⟨q, rfl, HS.out⟩, HB2.out⟩

set_option maxRecDepth 100000 in
set_option maxHeartbeats 4000000 in
theorem iAreDif_none (s k : Int) (G : Nat) (p pq : Option Addr) (n c m mc : Nat) (es : List (Int × Int)) (w : World) (hm : n ≤ 1048576) (hn : es.length = n) (hr : SeesE w p es) (g : ¬ IsG s es) :
    Calls Try.prog 68 #[.agg #[.int .i64 s, .slice p n c], .int .i64 k, .slice pq m mc, .func (.func G) #[] #[]] w fun e' w' => e' = .returned (.tuple #[.bool false, .int .i64 1]) ∧ Below w.heap.size w w' := by
  have Hn := hid hn
  have Hr := hid hr
  have G' := hid g
  clear hn hr g
  go_enter Try.func68, Try.ntmps68
  go_wp2_with fail
  refine (iIsGraph_any _ _ _ _ es _ hm Hn.out (Hr.out.on (on_alloc _ _))).mono ?_
  rw [decide_eq_false G'.out]
  rintro e' w2 ⟨rfl, hb2⟩
  have HB2 := hid (bfrom (w := w) (on_alloc _ _) hb2)
  clear hb2
  go_wp2
  go_ret2
  exact ⟨rfl, HB2.out⟩

set_option maxRecDepth 100000 in
set_option maxHeartbeats 4000000 in
theorem iAreDif_any (s k : Int) (G N : Nat) (M : Nat → Nat → Bool) (b off n c m mc : Nat) (pq : Option Addr) (es : List (Int × Int)) (xs : List Int) (w : World) (hn : es.length = n) (hr : ReadsE w b off es) (g : IsG s es)
    (eg : ∀ args w, (callFunc G args).run Try.prog w = .ok (.enter G args) w)
    (hG : ∀ W, Below w.heap.size w W → Calls Try.prog G #[.agg #[.int .i64 s, .slice (some ⟨b, off, none⟩) n c]] W fun e' w' => (∃ q, e' = .returned (.slice q N N) ∧ SeesL w' q (rowsM M N)) ∧ Below W.heap.size W w')
    (hN : 1 ≤ N ∧ N ≤ 60) (hx : xs.length = m) (hm9 : m ≤ 1048576) (hrx : SeesI w pq xs) :
    Calls Try.prog 68 #[.agg #[.int .i64 s, .slice (some ⟨b, off, none⟩) n c], .int .i64 k, .slice pq m mc, .func (.func G) #[] #[]] w fun e' w' => e' = .returned (if (1 ≤ k ∧ k ≤ 20) ∧ m = N then .tuple #[.bool (decide (suitP k 1 M xs)), .int .i64 0] else .tuple #[.bool false, .int .i64 2]) ∧ Below w.heap.size w w' := by
  have hn30 : n ≤ 30 := by have := isG_len g; omega
  have Hn := hid hn
  have Hr := hid hr
  have GG := hid g
  have HG := hid hG
  have Hx := hid hx
  have Hrx := hid hrx
  obtain ⟨V, hV⟩ : ∃ V : Value, (if (1 ≤ k ∧ k ≤ 20) ∧ m = N then Value.tuple #[.bool (decide (suitP k 1 M xs)), .int .i64 0] else .tuple #[.bool false, .int .i64 2]) = V := ⟨_, rfl⟩
  rw [hV]
  have HV := hid hV
  clear hn hr g hG hx hrx hV
  by_cases hk : 1 ≤ k ∧ k ≤ 20
  · by_cases hmN : m = N
    · have HW := hid (show V = .tuple #[.bool (decide (suitP k 1 M xs)), .int .i64 0] by rw [← HV.out, if_pos ⟨hk, hmN⟩])
      subst hmN
      go_enter Try.func68, Try.ntmps68
      go_wp2_with fail
      refine (iIsGraph_any _ _ _ _ es _ (by omega) Hn.out (SeesE.on (.inr ⟨b, off, rfl, Hr.out⟩) (on_alloc _ _))).mono ?_
      rw [decide_eq_true GG.out]
      rintro e' w2 ⟨rfl, hb2⟩
      have HB2 := hid (bfrom (w := w) (on_alloc _ _) hb2)
      have HX2 := hid ((Box.new w s (some ⟨b, off, none⟩) n c 30).on hb2)
      have hx2 := HX2.out.1
      have hy2 := HX2.out.2
      have hz2 := HX2.out.lt
      clear hb2
      go_wp2_with fail
      refine (HG.out _ HB2.out).mono ?_
      rintro e' w3 ⟨⟨q, rfl, hs3⟩, hb3⟩
      have HB3 := hid (bfrom HB2.out hb3)
      have HS3 := hid hs3
      clear hs3 hb3 hx2 hy2
      go_wp2_with fail
      refine (iDifferent_any k _).mono ?_
      rintro e' w4 ⟨rfl, hb4⟩
      have HB4 := hid (bfrom HB3.out hb4)
      have HS4 := hid (HS3.out.on hb4)
      clear hb4
      go_wp2_with fail
      refine (iSuits_any k 1 M pq q m mc m xs _ (by omega) (by omega) Hx.out (by omega) hN.1 (Hrx.out.on HB4.out) HS4.out).mono ?_
      rintro e' w5 ⟨rfl, hb5⟩
      have HB5 := hid (bfrom HB4.out hb5)
      clear hb5
      go_wp2
      go_ret2
      rw [HW.out]
      exact ⟨rfl, HB5.out⟩
    · have HW := hid (show V = .tuple #[.bool false, .int .i64 2] by rw [← HV.out, if_neg (fun h => hmN h.2)])
      have hl1 : ((m : Int) != (N : Int)) = true := by simp; omega
      go_enter Try.func68, Try.ntmps68
      go_wp2_with fail
      refine (iIsGraph_any _ _ _ _ es _ (by omega) Hn.out (SeesE.on (.inr ⟨b, off, rfl, Hr.out⟩) (on_alloc _ _))).mono ?_
      rw [decide_eq_true GG.out]
      rintro e' w2 ⟨rfl, hb2⟩
      have HB2 := hid (bfrom (w := w) (on_alloc _ _) hb2)
      have HX2 := hid ((Box.new w s (some ⟨b, off, none⟩) n c 30).on hb2)
      have hx2 := HX2.out.1
      have hy2 := HX2.out.2
      have hz2 := HX2.out.lt
      clear hb2
      go_wp2_with fail
      refine (HG.out _ HB2.out).mono ?_
      rintro e' w3 ⟨⟨q, rfl, hs3⟩, hb3⟩
      have HB3 := hid (bfrom HB2.out hb3)
      clear hs3 hb3 hx2 hy2
      go_wp2
      go_ret2
      rw [HW.out]
      exact ⟨rfl, HB3.out⟩
  · have HW := hid (show V = .tuple #[.bool false, .int .i64 2] by rw [← HV.out, if_neg (fun h => hk h.1)])
    have hk2 : k < 1 ∨ 20 < k := by omega
    clear hk
    rcases hk2 with hk | hk
    all_goals
      go_enter Try.func68, Try.ntmps68
      go_wp2_with fail
      refine (iIsGraph_any _ _ _ _ es _ (by omega) Hn.out (SeesE.on (.inr ⟨b, off, rfl, Hr.out⟩) (on_alloc _ _))).mono ?_
      rw [decide_eq_true GG.out]
      rintro e' w2 ⟨rfl, hb2⟩
      have HB2 := hid (bfrom (w := w) (on_alloc _ _) hb2)
      have HX2 := hid ((Box.new w s (some ⟨b, off, none⟩) n c 30).on hb2)
      have hx2 := HX2.out.1
      have hy2 := HX2.out.2
      have hz2 := HX2.out.lt
      clear hb2
      go_wp2_with fail
      refine (HG.out _ HB2.out).mono ?_
      rintro e' w3 ⟨⟨q, rfl, hs3⟩, hb3⟩
      have HB3 := hid (bfrom HB2.out hb3)
      clear hs3 hb3 hx2 hy2
      go_wp2
      go_ret2
      rw [HW.out]
      exact ⟨rfl, HB3.out⟩

end Go.Proofs.Ytonlpihbpbnnmaa
