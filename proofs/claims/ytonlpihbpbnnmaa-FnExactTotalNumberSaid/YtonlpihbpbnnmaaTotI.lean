/- What has other numbers in total colourings, in the program: totalRows. -/
import Derived.Test.YtonlpihbpbnnmaaDifI
import Derived.Test.YtonlpihbpbnnmaaAcross
import Derived.Test.YtonlpihbpbnnmaaMxA
import Derived.BigQuiet
import Derived.Deep.RegionHeld3
namespace Go.Proofs.Ytonlpihbpbnnmaa
open Go.RowKit

/-- A vertex is joined to another one by an edge that stands in the list. -/
theorem join_in {s : Int} {es : List (Int × Int)} {x y : Int} (g : IsG s es) : joinP es x y ↔ ∃ e, e < es.length ∧ eA es e = min x y ∧ eB es e = max x y := by
  unfold joinP
  constructor
  · rintro ⟨e, he, h⟩
    have h1 := (g.2.2 e he).1
    refine ⟨e, he, ?_⟩
    omega
  · rintro ⟨e, he, h1, h2⟩
    exact ⟨e, he, by omega⟩

set_option maxRecDepth 100000 in
set_option maxHeartbeats 2000000 in
theorem iJoining_any (a b : Int) (w : World) :
    Calls Try.prog 123 #[.int .i64 a, .int .i64 b] w fun r w' => r = .returned (.agg #[.int .i64 (min a b), .int .i64 (max a b)]) ∧ Below w.heap.size w w' := by
  by_cases h : a ≤ b
  · have e1 : min a b = a := by omega
    have e2 : max a b = b := by omega
    rw [e1, e2]
    have E1 := hid e1
    have E2 := hid e2
    clear e1 e2
    by_cases h2 : a = b
    · subst h2
      go_enter Try.func123, Try.ntmps123
      go_wp2
      refine bodyPost_ret (v := .agg #[.int .i64 a, .int .i64 a]) (by simp [results, Try.results123, go_sem]) rfl ⟨rfl, ?_⟩
      have := Below.refl w.heap.size w
      go_grown
    · have h3 : a < b := by omega
      go_enter Try.func123, Try.ntmps123
      go_wp2
      refine bodyPost_ret (v := .agg #[.int .i64 a, .int .i64 b]) (by simp [results, Try.results123, go_sem, E1.out, E2.out]) rfl ⟨rfl, ?_⟩
      have := Below.refl w.heap.size w
      go_grown
  · have e1 : min a b = b := by omega
    have e2 : max a b = a := by omega
    have h3 : b < a := by omega
    rw [e1, e2]
    have E1 := hid e1
    have E2 := hid e2
    clear e1 e2
    go_enter Try.func123, Try.ntmps123
    go_wp2
    refine bodyPost_ret (v := .agg #[.int .i64 b, .int .i64 a]) (by simp [results, Try.results123, go_sem, E1.out, E2.out]) rfl ⟨rfl, ?_⟩
    have := Below.refl w.heap.size w
    go_grown

/-- An edge stands in a list. -/
def hasE (es : List (Int × Int)) (x y : Int) : Prop := ∃ e, e < es.length ∧ eA es e = x ∧ eB es e = y
instance (es : List (Int × Int)) (x y : Int) : Decidable (hasE es x y) := by unfold hasE; infer_instance

set_option maxRecDepth 100000 in
set_option maxHeartbeats 4000000 in
theorem iIndexE_any (b off n c : Nat) (x y : Int) (es : List (Int × Int)) (w : World) (hn : es.length = n) (hm : n ≤ 30) (hr : ReadsE w b off es) :
    Calls Try.prog 153 #[.slice (some ⟨b, off, none⟩) n c, .agg #[.int .i64 x, .int .i64 y]] w fun e' w' => (∃ r : Int, e' = .returned (.int .i64 r) ∧ decide (0 ≤ r) = decide (hasE es x y)) ∧ Below w.heap.size w w' := by
  have Hn := hid hn
  have Hr := hid hr
  have HX := hid (Boxed2.new w 68 x y)
  have HB1 := hid (on_alloc w (.cells #[.int .i64 x, .int .i64 y] 68))
  clear hn hr
  go_enter Try.func153, Try.ntmps153
  go_wp2
  obtain ⟨w2, hw2⟩ : ∃ w2, w2 = w.alloc (.cells #[.int .i64 x, .int .i64 y] 68) := ⟨_, rfl⟩
  rw [← hw2] at HX HB1 ⊢
  clear hw2
  go_loopw [8] (fun i wr => ∃ k : Nat, k ≤ n ∧ i = .int .i64 k ∧ Hid (∀ j, j < k → ¬ (eA es j = x ∧ eB es j = y)) ∧ Hid (Below w2.heap.size w2 wr)) (fun i _ => n - (intOf i).toNat)
  case atStart => exact ⟨0, Nat.zero_le _, rfl, hid (fun j hj => by omega), hid (Below.refl _ _)⟩
  case round =>
    obtain ⟨k, hk, rfl, hE, hB⟩ := hrel
    obtain ⟨wi, rfl⟩ : ∃ wi : World, wi = wr := ⟨_, rfl⟩
    have HBw := hid (bfrom HB1.out hB.out)
    by_cases hlt : k < n
    · have hlt' : (k : Int) < (n : Int) := by omega
      obtain ⟨h1, h2⟩ := Hr.out.on HBw.out k (by rw [Hn.out]; exact hlt)
      have hbl := World.block_lt_of_cell? wi _ h1
      dsimp only at hbl
      obtain ⟨X, hX⟩ : ∃ X, eA es k = X := ⟨_, rfl⟩
      obtain ⟨Y, hY⟩ : ∃ Y, eB es k = Y := ⟨_, rfl⟩
      rw [hX] at h1
      rw [hY] at h2
      have k0 := (HX.out.on hB.out).c0
      have k1 := (HX.out.on hB.out).c1
      have k2 := (HX.out.on hB.out).lt
      obtain ⟨kb, hkb⟩ : ∃ kb, (x == X && y == Y) = kb := ⟨_, rfl⟩
      have heq : ∀ w', (binOp .eql 68 (.agg #[.int .i64 x, .int .i64 y]) (.agg #[.int .i64 X, .int .i64 Y])).run Try.prog w' = .ok (.bool kb) w' := fun w' => by
        rw [edge_eql, hkb]
      have HXY := hid (And.intro hX hY)
      have HKB := hid hkb
      clear hX hY hkb
      cases kb
      · have HNo := hid (show ¬ (eA es k = x ∧ eB es k = y) from fun h => by
          have h3 := HKB.out
          rw [← HXY.out.1, ← HXY.out.2, h.1, h.2] at h3
          simp at h3)
        go_wp2
        go_quiet (fail)
        go_wp2
        go_roundw
        case rel =>
          refine ⟨k + 1, by omega, by go_num, hid (fun j hj => ?_), hid (bdn.2 hB.out)⟩
          rcases Nat.lt_or_ge j k with h | h
          · exact hE.out j h
          · obtain rfl : j = k := by omega
            exact HNo.out
        case measure => simp [intOf]; omega
      · have HYes := hid (show hasE es x y from ⟨k, by rw [Hn.out]; exact hlt, by
          have h3 := HKB.out
          simp only [Bool.and_eq_true, beq_iff_eq] at h3
          exact ⟨HXY.out.1.trans h3.1.symm, HXY.out.2.trans h3.2.symm⟩⟩)
        go_wp2
        go_quiet (fail)
        go_wp2
        go_ret
        exact ⟨⟨k, rfl, by rw [decide_eq_true (show (0 : Int) ≤ (k : Int) by omega), decide_eq_true HYes.out]⟩, bdn.2 HBw.out⟩
    · have hkn := hid (show k = n by omega)
      go_wp2
      go_ret
      refine ⟨⟨-1, rfl, ?_⟩, HBw.out⟩
      rw [decide_eq_false (show ¬ hasE es x y from fun ⟨e, h1, h2, h3⟩ => hE.out e (by have := hkn.out; have := Hn.out; omega) ⟨h2, h3⟩)]
      rfl

set_option maxRecDepth 100000 in
set_option maxHeartbeats 4000000 in
theorem iContainsE_any (b off n c : Nat) (x y : Int) (es : List (Int × Int)) (w : World) (hn : es.length = n) (hm : n ≤ 30) (hr : ReadsE w b off es) :
    Calls Try.prog 122 #[.slice (some ⟨b, off, none⟩) n c, .agg #[.int .i64 x, .int .i64 y]] w fun e' w' => e' = .returned (.bool (decide (hasE es x y))) ∧ Below w.heap.size w w' := by
  obtain ⟨q, hq⟩ : ∃ q, decide (hasE es x y) = q := ⟨_, rfl⟩
  have HQ := hid hq
  rw [hq]
  have Hn := hid hn
  have Hr := hid hr
  have HB1 := hid (on_alloc w (.cells #[.int .i64 x, .int .i64 y] 68))
  clear hn hr hq
  go_enter Try.func122, Try.ntmps122
  go_wp2_with fail
  refine (iIndexE_any b off n c x y es _ Hn.out hm (Hr.out.on HB1.out)).mono ?_
  rw [HQ.out]
  rintro e' w2 ⟨⟨r, rfl, h2⟩, hb2⟩
  have HB2 := hid (bfrom HB1.out hb2)
  clear hb2
  cases q
  · have h3 : ¬ 0 ≤ r := of_decide_eq_false h2
    go_wp2
    go_ret
    exact ⟨rfl, HB2.out⟩
  · have h3 : 0 ≤ r := of_decide_eq_true h2
    go_wp2
    go_ret
    exact ⟨rfl, HB2.out⟩

theorem across_on {es : List (Int × Int)} {v : Int} {k : Nat} : (acrossF (eA es k) (eB es k) v).2 = onE es v k := by
  unfold acrossF onE
  by_cases h1 : eA es k = v
  · simp [h1]
  · rw [if_neg h1]
    by_cases h2 : eB es k = v
    · simp [h2]
    · simp [h1, h2]

set_option maxRecDepth 100000 in
set_option maxHeartbeats 4000000 in
theorem iTotF_any (s : Nat) (B b off n c i j : Nat) (es : List (Int × Int)) (w : World) (hn : es.length = n) (hr : ReadsE w b off es) (g : IsG s es) (hX : Box w B s (some ⟨b, off, none⟩) n c) (hij : j < i) (hi : i < s + n) :
    Calls Try.prog 121 #[.int .i64 i, .int .i64 j, .pointer (some ⟨B, 0, none⟩)] w fun e' w' => e' = .returned (.bool (totB s es i j)) ∧ Below w.heap.size w w' := by
  have hn30 : n ≤ 30 := by have := isG_len g; omega
  have hs20 : s ≤ 20 := by have := g.1.1.2.1; omega
  have h1n : 1 ≤ n := by have := g.1.1.2.2.2; have := g.1.1.1; omega
  have hbl : b < w.heap.size := reads_lt hr (by omega)
  have hx1 := hX.1
  have hx2 := hX.2
  have hx3 := hX.lt
  have Hn := hid hn
  have Hr := hid hr
  by_cases h1 : i < s
  · have h1' : (i : Int) < (s : Int) := by omega
    have HT := hid (show decide (hasE es (min (i : Int) (j : Int)) (max (i : Int) (j : Int))) = totB s es i j by
      unfold totB
      rw [if_pos h1, decide_eq_decide]
      exact (join_in g).symm)
    clear hX hn hr g
    go_enter Try.func121, Try.ntmps121
    go_wp2
    go_region_with (first
      | (go_at_call 123; refine (iJoining_any (i : Int) (j : Int) _).mono ?_; rintro e' w5 ⟨rfl, hb5⟩; have hb5' : Below w.heap.size w w5 := bfrom (by first | exact Below.refl _ _ | exact (Below.refl _ _).drew) hb5; have q1 := (hb5'.cell (p := ⟨B, 1, none⟩) hx3).trans hx2; have q3 : B < w5.heap.size := (by have := hb5'.size; omega))
      | (go_at_call 122; refine (iContainsE_any b off n c _ _ es _ Hn.out hn30 (Hr.out.on hb5')).mono ?_; rw [HT.out]; rintro e' w6 ⟨rfl, hb6⟩))
    all_goals
      have HB6 := hid (bfrom hb5' hb6)
      clear hb5 hb6 hb5'
      go_wp2
      go_ret
      exact ⟨rfl, by first | exact HB6.out | exact bdn.2 HB6.out⟩
  · have h1' : ¬ (i : Int) < (s : Int) := by omega
    obtain ⟨u, hu⟩ : ∃ u : Nat, i - s = u := ⟨_, rfl⟩
    have hu2 : (i : Int) - (s : Int) = (u : Int) := by omega
    have hun : u < n := by omega
    have hun' : (u : Int) < (n : Int) := by omega
    obtain ⟨k1, k2⟩ := hr u (by omega)
    obtain ⟨x, hx⟩ : ∃ x, eA es u = x := ⟨_, rfl⟩
    obtain ⟨y, hy⟩ : ∃ y, eB es u = y := ⟨_, rfl⟩
    rw [hx] at k1
    rw [hy] at k2
    by_cases h2 : j < s
    · have h2' : (j : Int) < (s : Int) := by omega
      obtain ⟨r, hrr⟩ : ∃ r, acrossF x y (j : Int) = r := ⟨_, rfl⟩
      obtain ⟨r1, r2⟩ := r
      have HRR := hid hrr
      have HT := hid (show r2 = totB s es i j by
        unfold totB
        rw [if_neg h1, if_pos h2, hu, ← across_on, hx, hy, hrr])
      clear hX hn hr g hx hy hu hrr
      go_enter Try.func121, Try.ntmps121
      go_wp2_with fail
      refine (iAcross_any x y (j : Int) _).mono ?_
      rw [HRR.out]
      rintro e' w5 ⟨rfl, hb5⟩
      have HB5 := hid hb5
      clear hb5
      go_wp2
      go_ret
      rw [HT.out]
      exact ⟨rfl, HB5.out⟩
    · have h2' : ¬ (j : Int) < (s : Int) := by omega
      obtain ⟨v, hv⟩ : ∃ v : Nat, j - s = v := ⟨_, rfl⟩
      have hv2 : (j : Int) - (s : Int) = (v : Int) := by omega
      have hvn : v < n := by omega
      have hvn' : (v : Int) < (n : Int) := by omega
      obtain ⟨k3, k4⟩ := hr v (by omega)
      obtain ⟨z, hz⟩ : ∃ z, eA es v = z := ⟨_, rfl⟩
      obtain ⟨t, ht⟩ : ∃ t, eB es v = t := ⟨_, rfl⟩
      rw [hz] at k3
      rw [ht] at k4
      have HT := hid (show meetB x y z t = totB s es i j by
        unfold totB
        rw [if_neg h1, if_neg h2, hu, hv, ← hx, ← hy, ← hz, ← ht]
        rfl)
      clear hX hn hr g hx hy hz ht hu hv
      have ew1 : IntKind.i64.wrap ((i : Int) - (s : Int)) = (u : Int) := by rw [hu2]; exact IntWalk.i64_in _ (by omega)
      have ew2 : IntKind.i64.wrap ((j : Int) - (s : Int)) = (v : Int) := by rw [hv2]; exact IntWalk.i64_in _ (by omega)
      have hu0 : (0 : Int) ≤ (u : Int) := by omega
      have hv0 : (0 : Int) ≤ (v : Int) := by omega
      clear hu2 hv2
      go_enter Try.func121, Try.ntmps121
      go_wp2
      go_region_held3 (fun w' => (w'.cell? ⟨B, 0, none⟩ = some (.int .i64 s) ∧ w'.cell? ⟨B, 1, none⟩ = some (.slice (some ⟨b, off, none⟩) n c)) ∧ (w'.cell? ⟨b, off + u * 2, none⟩ = some (.int .i64 x) ∧ w'.cell? ⟨b, off + u * 2 + 1, none⟩ = some (.int .i64 y)) ∧ w'.cell? ⟨b, off + v * 2, none⟩ = some (.int .i64 z) ∧ w'.cell? ⟨b, off + v * 2 + 1, none⟩ = some (.int .i64 t)) (go_keep) ((go_at_call 115; refine (iHave_any x y z t _).mono ?_; rw [HT.out]; rintro e' w2 ⟨rfl, hb2⟩; have q1 := (hb2.cell (p := ⟨B, 0, none⟩) hx3).trans hx1; have q2 := (hb2.cell (p := ⟨B, 1, none⟩) hx3).trans hx2; have q3 := (hb2.cell (p := ⟨b, off + u * 2, none⟩) hbl).trans k1; have q4 := (hb2.cell (p := ⟨b, off + u * 2 + 1, none⟩) hbl).trans k2; have q5 := (hb2.cell (p := ⟨b, off + v * 2, none⟩) hbl).trans k3; have q6 := (hb2.cell (p := ⟨b, off + v * 2 + 1, none⟩) hbl).trans k4))
      all_goals
        have HB2 := hid (show Below w.heap.size w w2 from ⟨hb2.os, hb2.tape, hb2.output, hb2.size, hb2.block⟩)
        clear hb2
        go_wp2
        go_ret
        exact ⟨rfl, by first | exact HB2.out | exact bdn.2 HB2.out⟩

set_option maxRecDepth 100000 in
set_option maxHeartbeats 4000000 in
theorem iTotRows_any (s : Nat) (b off n c : Nat) (es : List (Int × Int)) (w : World) (hn : es.length = n) (hr : ReadsE w b off es) (g : IsG s es) :
    Calls Try.prog 70 #[.agg #[.int .i64 s, .slice (some ⟨b, off, none⟩) n c]] w fun e' w' => (∃ q, e' = .returned (.slice q (s + n) (s + n)) ∧ SeesL w' q (rowsM (totB s es) (s + n))) ∧ Below w.heap.size w w' := by
  have hn30 : n ≤ 30 := by have := isG_len g; omega
  have hs20 : 2 ≤ s ∧ s ≤ 20 := by have := g.1.1.2.1; have := g.1.1.1; omega
  have Hn := hid hn
  have Hr := hid hr
  have G := hid g
  have HX := hid (Box.new w s (some ⟨b, off, none⟩) n c 30)
  have HB1 := hid (on_alloc w (.cells #[.int .i64 s, .slice (some ⟨b, off, none⟩) n c] 30))
  have eg : ∀ args w, (callFunc 121 args).run Try.prog w = .ok (.enter 121 args) w := enters_of Try.func121 (by kernel_rfl) rfl
  obtain ⟨N, hN⟩ : ∃ N, s + n = N := ⟨_, rfl⟩
  have hN2 : (s : Int) + (n : Int) = (N : Int) := by omega
  have HN := hid hN
  rw [hN]
  have hx1 := HX.out.1
  have hx2 := HX.out.2
  clear hn hr g hN
  go_enter Try.func70, Try.ntmps70
  go_wp2_with fail
  refine (iRowsOf_any N 121 _ (totB s es) _ eg (by omega) (by omega) (fun i j hij hi W hW => iTotF_any s _ b off n c i j es W Hn.out (Hr.out.on (bfrom HB1.out hW)) G.out (HX.out.on hW) hij (by rw [HN.out]; exact hi))).mono ?_
  rintro e' w2 ⟨⟨q, rfl, hs⟩, hb2⟩
  have HB2 := hid (bfrom HB1.out hb2)
  have HS := hid hs
  clear hb2 hs
  go_wp2
  go_ret
  exact ⟨⟨q, rfl, HS.out⟩, HB2.out⟩

end Go.Proofs.Ytonlpihbpbnnmaa
