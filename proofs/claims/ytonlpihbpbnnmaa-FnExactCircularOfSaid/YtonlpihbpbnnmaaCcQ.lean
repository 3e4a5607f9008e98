/- CircularOf at any argument, in the model and in the program. -/
import Derived.Test.YtonlpihbpbnnmaaCirT
import Derived.Test.YtonlpihbpbnnmaaCirI
import Derived.Test.YtonlpihbpbnnmaaGoK
import Derived.Test.YtonlpihbpbnnmaaInts
namespace Go.Proofs.Ytonlpihbpbnnmaa
open Go.RowKit

/-- A found list, or none. -/
def foundF (S : Option (List Int)) : List Int × Int := match S with
  | some zs => (zs, 0)
  | none => ([], 4)
def fCircularOf (s : Int) (es : List (Int × Int)) (k d : Int) : List Int × Int :=
  if IsG s es then (if circOk k d then (if s ≤ 10 then foundF (leastL k.toNat d (nearB es) es.length) else ([], 3)) else ([], 2)) else ([], 1)
theorem least_len {k n : Nat} {d : Int} {M : Nat → Nat → Bool} {zs : List Int} (h : leastL k d M n = some zs) : zs.length = n := by
  have h2 := (srch_wh n [] zs (suit_nil _ _ _) h).1.1
  simpa using h2
theorem fCircularOf_len (s : Int) (es : List (Int × Int)) (k d : Int) (h : es.length ≤ 1048576) : (fCircularOf s es k d).1.length ≤ 1048576 := by
  unfold fCircularOf
  split
  · split
    · split
      · unfold foundF
        cases e : leastL k.toNat d (nearB es) es.length with
        | none => simp
        | some zs => simp only; rw [least_len e]; exact h
      · simp
    · simp
  · simp
theorem own_emptyC (w : World) : OwnI (w.alloc (.cells #[] 2)) w.heap.size 0 [] := ⟨_, heap_alloc_new w _, rfl, by simp, by unfold maxLen; omega, fun i hi => absurd hi (by simp)⟩
/-- A list as a result. -/
def ListR (F : List Int × Int) (w : World) (e' : Ending) (w' : World) : Prop := ∃ q cap, e' = .returned (.tuple #[.slice q F.1.length cap, .int .i64 F.2]) ∧ FreshI w.heap.size w' q F.1.length cap F.1 ∧ Below w.heap.size w w'
theorem listR_nil {q : Int} {w w' : World} (h : Below w.heap.size w w') : ListR ([], q) w (.returned (.tuple #[.slice none 0 0, .int .i64 q])) w' := ⟨none, 0, rfl, FreshI.nil _ _, h⟩

set_option maxRecDepth 100000 in
set_option maxHeartbeats 4000000 in
theorem sCircularOf_none (s k d : Int) (p : Option Addr) (n c : Nat) (es : List (Int × Int)) (w : World) (hm : n ≤ 1048576) (hn : es.length = n) (hr : SeesE w p es) (g : ¬ IsG s es) :
    Calls Try.prog 35 #[.agg #[.int .i64 s, .slice p n c], .int .i64 k, .int .i64 d] w (ListR ([], 1) w) := by
  have Hn := hid hn
  have Hr := hid hr
  have G := hid g
  clear hn hr g
  go_enter Try.func35, Try.ntmps35
  go_wp2_with fail
  refine (sIs_any _ _ _ _ es _ (by omega) Hn.out (Hr.out.on (on_alloc _ _))).mono ?_
  rw [decide_eq_false G.out]
  rintro e' w2 ⟨rfl, hb2⟩
  have HB2 := hid (bfrom (w := w) (on_alloc _ _) hb2)
  clear hb2
  go_wp2
  go_ret2
  exact listR_nil HB2.out

set_option maxRecDepth 100000 in
set_option maxHeartbeats 4000000 in
theorem sCircularOf_kd (s k d : Int) (p : Option Addr) (n c : Nat) (es : List (Int × Int)) (w : World) (hm : n ≤ 1048576) (hn : es.length = n) (hr : SeesE w p es) (g : IsG s es) (hc : ¬ circOk k d) :
    Calls Try.prog 35 #[.agg #[.int .i64 s, .slice p n c], .int .i64 k, .int .i64 d] w (ListR ([], 2) w) := by
  have Hn := hid hn
  have Hr := hid hr
  have G := hid g
  have HC := hid (show decide (circOk k d) = false from decide_eq_false hc)
  clear hn hr g hc
  go_enter Try.func35, Try.ntmps35
  go_wp2_with fail
  refine (sIs_any _ _ _ _ es _ (by omega) Hn.out (Hr.out.on (on_alloc _ _))).mono ?_
  rw [decide_eq_true G.out]
  rintro e' w2 ⟨rfl, hb2⟩
  have HB2 := hid (bfrom (w := w) (on_alloc _ _) hb2)
  clear hb2
  go_wp2_with fail
  refine (sNumbers_any k d _).mono ?_
  rw [HC.out]
  rintro e' w' ⟨rfl, rfl⟩
  go_wp2
  go_ret2
  exact listR_nil HB2.out

set_option maxRecDepth 100000 in
set_option maxHeartbeats 4000000 in
theorem sCircularOf_big (s k d : Int) (p : Option Addr) (n c : Nat) (es : List (Int × Int)) (w : World) (hm : n ≤ 1048576) (hn : es.length = n) (hr : SeesE w p es) (g : IsG s es) (hc : circOk k d) (hs : 10 < s) :
    Calls Try.prog 35 #[.agg #[.int .i64 s, .slice p n c], .int .i64 k, .int .i64 d] w (ListR ([], 3) w) := by
  have Hn := hid hn
  have Hr := hid hr
  have G := hid g
  have HC := hid (show decide (circOk k d) = true from decide_eq_true hc)
  clear hn hr g hc
  go_enter Try.func35, Try.ntmps35
  go_wp2_with fail
  refine (sIs_any _ _ _ _ es _ (by omega) Hn.out (Hr.out.on (on_alloc _ _))).mono ?_
  rw [decide_eq_true G.out]
  rintro e' w2 ⟨rfl, hb2⟩
  have HB2 := hid (bfrom (w := w) (on_alloc _ _) hb2)
  have HX2 := hid ((Box.new w s p n c 30).on hb2)
  have hx2 := HX2.out.1
  have hz2 := HX2.out.lt
  clear hb2
  go_wp2_with fail
  refine (sNumbers_any k d _).mono ?_
  rw [HC.out]
  rintro e' w' ⟨rfl, rfl⟩
  go_wp2
  go_ret2
  exact listR_nil HB2.out

set_option maxRecDepth 100000 in
set_option maxHeartbeats 4000000 in
theorem sCircularOf_yes (s d : Int) (k : Nat) (b off n c : Nat) (es : List (Int × Int)) (w : World) (hn : es.length = n) (hr : ReadsE w b off es) (g : IsG s es) (hc : circOk k d) (hs : s ≤ 10) :
    Calls Try.prog 35 #[.agg #[.int .i64 s, .slice (some ⟨b, off, none⟩) n c], .int .i64 k, .int .i64 d] w (ListR (foundF (leastL k d (nearB es) n)) w) := by
  have hn30 : n ≤ 30 := by have := isG_len g; omega
  have hk2 : 1 ≤ k ∧ k ≤ 60 := by have := hc.1; omega
  have hd2 : 0 ≤ d ∧ d ≤ 1000 := by have := hc.1; have := hc.2; omega
  have Hn := hid hn
  have Hr := hid hr
  have G := hid g
  have HC := hid (show decide (circOk k d) = true from decide_eq_true hc)
  clear hn hr g hc
  go_enter Try.func35, Try.ntmps35
  go_wp2_with fail
  refine (sIs_any _ _ _ _ es _ (by omega) Hn.out (SeesE.on (.inr ⟨b, off, rfl, Hr.out⟩) (on_alloc _ _))).mono ?_
  rw [decide_eq_true G.out]
  rintro e' w2 ⟨rfl, hb2⟩
  have HB2 := hid (bfrom (w := w) (on_alloc _ _) hb2)
  have HX2 := hid ((Box.new w s (some ⟨b, off, none⟩) n c 30).on hb2)
  have hx2 := HX2.out.1
  have hy2 := HX2.out.2
  have hz2 := HX2.out.lt
  clear hb2
  go_wp2_with fail
  refine (sNumbers_any k d _).mono ?_
  rw [HC.out]
  rintro e' w3 ⟨rfl, rfl⟩
  go_wp2_with fail
  have hs2 := HB2.out.size
  have HOe := own_emptyC w2
  have HBe := bfrom HB2.out (on_alloc w2 (.cells #[] 2))
  have hze : w.heap.size ≤ (w2.alloc (.cells #[] 2)).heap.size := HBe.size
  obtain ⟨w3, hw3⟩ : ∃ w3, w3 = w2.alloc (.cells #[] 2) := ⟨_, rfl⟩
  rw [← hw3] at HOe HBe hze ⊢
  clear hw3
  refine (sCirc_any s b off n c w.heap.size k d es w Hn.out hn30 Hr.out hk2 hd2 n [] 0 w2.heap.size 0 w3 rfl (by omega) (suit_nil _ _ _) HBe HOe hs2 hze).mono ?_
  rintro e' w4 ⟨q, l, c', fnd, rfl, hb4, h4⟩
  have HB4 := hid (bfrom HBe hb4)
  have H4 := hid h4
  clear hb4 h4 HOe HBe hze hx2 hy2
  cases fnd
  · rcases H4.out with ⟨h, _⟩ | ⟨_, ⟨rfl, rfl, rfl⟩, hno⟩
    · cases h
    have HNo := hid (show leastL k d (nearB es) n = none from hno)
    clear hno
    go_wp2
    go_ret2
    rw [HNo.out]
    exact listR_nil HB4.out
  · rcases H4.out with ⟨_, e1, g', zs, rfl, hz, hO, hl, hg⟩ | ⟨h, _⟩
    rotate_left
    · cases h
    obtain rfl := e1.symm
    have HZ := hid (show leastL k d (nearB es) n = some zs from hz)
    have HQ := hid (And.intro hO (And.intro hl hg))
    clear hz hO hl hg
    go_wp2
    go_ret2
    rw [HZ.out]
    refine ⟨some ⟨g', 0, none⟩, c', ?_, ?_, HB4.out⟩
    · show _ = Ending.returned (Value.tuple #[.slice _ zs.length c', _])
      rw [HQ.out.2.1]; rfl
    · show FreshI _ _ _ zs.length c' zs
      exact FreshI.of_own HQ.out.1 rfl HQ.out.2.2

set_option maxRecDepth 100000 in
set_option maxHeartbeats 4000000 in
theorem iCircularOf_code (s k d : Int) (p : Option Addr) (n c : Nat) (es : List (Int × Int)) (w : World) (hm : n ≤ 1048576) (hn : es.length = n) (hr : SeesE w p es) (q : Int) (hq : circCode s es k d = q) (hne : (q != 0) = true) :
    Calls Try.prog 36 #[.agg #[.int .i64 s, .slice p n c], .int .i64 k, .int .i64 d] w (ListR ([], q) w) := by
  have Hn := hid hn
  have Hr := hid hr
  have HC := hid hq
  clear hn hr hq
  go_enter Try.func36, Try.ntmps36
  go_wp2_with fail
  refine (iCodeC_any s k d p n c es _ hm Hn.out (Hr.out.on (on_alloc _ _))).mono ?_
  rw [HC.out]
  rintro e' w2 ⟨rfl, hb2⟩
  have HB2 := hid (bfrom (w := w) (on_alloc _ _) hb2)
  clear hb2
  go_wp2
  go_ret2
  exact listR_nil HB2.out

set_option maxRecDepth 100000 in
set_option maxHeartbeats 4000000 in
theorem iCircularOf_big (s k d : Int) (p : Option Addr) (n c : Nat) (es : List (Int × Int)) (w : World) (hm : n ≤ 1048576) (hn : es.length = n) (hr : SeesE w p es) (hq : circCode s es k d = 0) (hs : 10 < s) :
    Calls Try.prog 36 #[.agg #[.int .i64 s, .slice p n c], .int .i64 k, .int .i64 d] w (ListR ([], 3) w) := by
  have Hn := hid hn
  have Hr := hid hr
  have HC := hid hq
  clear hn hr hq
  go_enter Try.func36, Try.ntmps36
  go_wp2_with fail
  refine (iCodeC_any s k d p n c es _ hm Hn.out (Hr.out.on (on_alloc _ _))).mono ?_
  rw [HC.out]
  rintro e' w2 ⟨rfl, hb2⟩
  have HB2 := hid (bfrom (w := w) (on_alloc _ _) hb2)
  have HX2 := hid ((Box.new w s p n c 30).on hb2)
  have hx2 := HX2.out.1
  have hz2 := HX2.out.lt
  clear hb2
  go_wp2
  go_ret2
  exact listR_nil HB2.out

set_option maxRecDepth 100000 in
set_option maxHeartbeats 4000000 in
theorem iCircularOf_yes (s d : Int) (k : Nat) (b off n c : Nat) (es : List (Int × Int)) (w : World) (hn : es.length = n) (hr : ReadsE w b off es) (g : IsG s es) (hc : circOk k d) (hs : s ≤ 10) :
    Calls Try.prog 36 #[.agg #[.int .i64 s, .slice (some ⟨b, off, none⟩) n c], .int .i64 k, .int .i64 d] w (ListR (foundF (leastL k d (nearB es) n)) w) := by
  have hn30 : n ≤ 30 := by have := isG_len g; omega
  have h2n : 2 ≤ n := by have := g.1.1.2.2.2; have := g.1.1.1; omega
  have hk2 : 1 ≤ k ∧ k ≤ 60 := by have := hc.1; omega
  have hd2 : 0 ≤ d ∧ d ≤ 1000 := by have := hc.1; have := hc.2; omega
  have Hn := hid hn
  have Hr := hid hr
  have HC := hid (show circCode s es k d = 0 by unfold circCode; rw [if_pos g, if_pos hc])
  clear hn hr g hc
  go_enter Try.func36, Try.ntmps36
  go_wp2_with fail
  refine (iCodeC_any s k d _ n c es _ (by omega) Hn.out (SeesE.on (.inr ⟨b, off, rfl, Hr.out⟩) (on_alloc _ _))).mono ?_
  rw [HC.out]
  rintro e' w2 ⟨rfl, hb2⟩
  have HB2 := hid (bfrom (w := w) (on_alloc _ _) hb2)
  have HX2 := hid ((Box.new w s (some ⟨b, off, none⟩) n c 30).on hb2)
  have hx2 := HX2.out.1
  have hy2 := HX2.out.2
  have hz2 := HX2.out.lt
  clear hb2
  go_wp2_with fail
  refine (iNearRows_any s b off n c es _ Hn.out (Hr.out.on HB2.out) h2n hn30).mono ?_
  rintro e' w3 ⟨⟨q3, rfl, hs3⟩, hb3⟩
  have HB3 := hid (bfrom HB2.out hb3)
  have HS := hid hs3
  clear hb3 hs3 hx2 hy2
  go_wp2_with fail
  refine (iLeastFor_any k d (nearB es) n n q3 _ hk2 hd2 (by omega) (by omega) HS.out).mono ?_
  rintro e' w4 ⟨q, l, c', fnd, rfl, hb4, h4⟩
  have HB4 := hid (bfrom HB3.out hb4)
  have hsz := HB3.out.size
  have H4 := hid h4
  clear hb4 h4
  cases fnd
  · rcases H4.out with ⟨h, _⟩ | ⟨_, ⟨rfl, rfl, rfl⟩, hno⟩
    · cases h
    have HNo := hid hno
    clear hno
    go_wp2
    go_ret2
    rw [HNo.out]
    exact listR_nil HB4.out
  · rcases H4.out with ⟨_, ⟨e1, e2⟩, g', zs, rfl, hg, hz, hO, hl⟩ | ⟨h, _⟩
    rotate_left
    · cases h
    obtain rfl := e1.symm
    obtain rfl := e2.symm
    have HZ := hid hz
    have HQ := hid (And.intro hO (And.intro hl (show w.heap.size ≤ g' by omega)))
    clear hz hO hl hg
    go_wp2
    go_ret2
    rw [HZ.out]
    refine ⟨some ⟨g', 0, none⟩, n, ?_, ?_, HB4.out⟩
    · show _ = Ending.returned (Value.tuple #[.slice _ zs.length n, _])
      rw [HQ.out.2.1]; rfl
    · show FreshI _ _ _ zs.length n zs
      exact FreshI.of_own HQ.out.1 rfl HQ.out.2.2

theorem sCircularOf_any (s : Int) (p : Option Addr) (n c : Nat) (es : List (Int × Int)) (k d : Int) (w : World) (hm : n ≤ 1048576) (hn : es.length = n) (hr : SeesE w p es) :
    Calls Try.prog 35 #[.agg #[.int .i64 s, .slice p n c], .int .i64 k, .int .i64 d] w fun e' w' => ∃ q cap, e' = .returned (.tuple #[.slice q (fCircularOf s es k d).1.length cap, .int .i64 (fCircularOf s es k d).2]) ∧ FreshI w.heap.size w' q (fCircularOf s es k d).1.length cap (fCircularOf s es k d).1 ∧ Below w.heap.size w w' := by
  show Calls _ _ _ w (ListR (fCircularOf s es k d) w)
  unfold fCircularOf
  by_cases g : IsG s es
  · rw [if_pos g]
    by_cases hc : circOk k d
    · rw [if_pos hc]
      by_cases hs : s ≤ 10
      · rw [if_pos hs]
        obtain ⟨b, off, rfl, rd⟩ := isG_sees g hr
        obtain ⟨K, rfl⟩ : ∃ K : Nat, k = K := ⟨_, (Int.toNat_of_nonneg (by have := hc.1; omega)).symm⟩
        rw [Int.toNat_natCast, hn]
        exact sCircularOf_yes s d K b off n c es w hn rd g hc hs
      · rw [if_neg hs]
        exact sCircularOf_big s k d p n c es w hm hn hr g hc (by omega)
    · rw [if_neg hc]
      exact sCircularOf_kd s k d p n c es w hm hn hr g hc
  · rw [if_neg g]
    exact sCircularOf_none s k d p n c es w hm hn hr g

theorem iCircularOf_any (s : Int) (p : Option Addr) (n c : Nat) (es : List (Int × Int)) (k d : Int) (w : World) (hm : n ≤ 1048576) (hn : es.length = n) (hr : SeesE w p es) :
    Calls Try.prog 36 #[.agg #[.int .i64 s, .slice p n c], .int .i64 k, .int .i64 d] w fun e' w' => ∃ q cap, e' = .returned (.tuple #[.slice q (fCircularOf s es k d).1.length cap, .int .i64 (fCircularOf s es k d).2]) ∧ FreshI w.heap.size w' q (fCircularOf s es k d).1.length cap (fCircularOf s es k d).1 ∧ Below w.heap.size w w' := by
  show Calls _ _ _ w (ListR (fCircularOf s es k d) w)
  unfold fCircularOf
  by_cases g : IsG s es
  · rw [if_pos g]
    by_cases hc : circOk k d
    · rw [if_pos hc]
      by_cases hs : s ≤ 10
      · rw [if_pos hs]
        obtain ⟨b, off, rfl, rd⟩ := isG_sees g hr
        obtain ⟨K, rfl⟩ : ∃ K : Nat, k = K := ⟨_, (Int.toNat_of_nonneg (by have := hc.1; omega)).symm⟩
        rw [Int.toNat_natCast, hn]
        exact iCircularOf_yes s d K b off n c es w hn rd g hc hs
      · rw [if_neg hs]
        exact iCircularOf_big s k d p n c es w hm hn hr (by unfold circCode; rw [if_pos g, if_pos hc]) (by omega)
    · rw [if_neg hc]
      exact iCircularOf_code s k d p n c es w hm hn hr 2 (by unfold circCode; rw [if_pos g, if_neg hc]) rfl
  · rw [if_neg g]
    exact iCircularOf_code s k d p n c es w hm hn hr 1 (by unfold circCode; rw [if_neg g]) rfl

end Go.Proofs.Ytonlpihbpbnnmaa
