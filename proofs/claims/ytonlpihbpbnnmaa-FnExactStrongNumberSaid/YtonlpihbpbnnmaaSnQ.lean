/- StrongNumber at any argument, in the model and in the program. -/
import Derived.Test.YtonlpihbpbnnmaaLeaS
import Derived.Test.YtonlpihbpbnnmaaLdI
import Derived.Test.YtonlpihbpbnnmaaSpecC
namespace Go.Proofs.Ytonlpihbpbnnmaa
open Go.RowKit

def fStrongNumber (s : Int) (es : List (Int × Int)) : Int × Int :=
  if IsG s es then (if s ≤ 10 then ((leastX (closeB es) es.length : Int), 0) else (0, 3)) else (0, 1)


set_option maxRecDepth 100000 in
set_option maxHeartbeats 4000000 in
theorem sStrongNumber_none (s : Int) (p : Option Addr) (n c : Nat) (es : List (Int × Int)) (w : World) (hm : n ≤ 1048576) (hn : es.length = n) (hr : SeesE w p es) (g : ¬ IsG s es) :
    Calls Try.prog 37 #[.agg #[.int .i64 s, .slice p n c]] w fun e' w' => e' = .returned (.tuple #[.int .i64 0, .int .i64 1]) ∧ Below w.heap.size w w' := by
  have Hn := hid hn
  have Hr := hid hr
  have G := hid g
  clear hn hr g
  go_enter Try.func37, Try.ntmps37
  go_wp2_with fail
  refine (sIs_any _ _ _ _ es _ (by omega) Hn.out (Hr.out.on (on_alloc _ _))).mono ?_
  rw [decide_eq_false G.out]
  rintro e' w2 ⟨rfl, hb2⟩
  have HB2 := hid (bfrom (w := w) (on_alloc _ _) hb2)
  have HX2 := hid ((Box.new w s p n c 30).on hb2)
  clear hb2
  go_wp2
  go_ret2
  exact ⟨rfl, HB2.out⟩


set_option maxRecDepth 100000 in
set_option maxHeartbeats 4000000 in
theorem sStrongNumber_big (s : Int) (p : Option Addr) (n c : Nat) (es : List (Int × Int)) (w : World) (hm : n ≤ 1048576) (hn : es.length = n) (hr : SeesE w p es) (g : IsG s es) (hs : 10 < s) :
    Calls Try.prog 37 #[.agg #[.int .i64 s, .slice p n c]] w fun e' w' => e' = .returned (.tuple #[.int .i64 0, .int .i64 3]) ∧ Below w.heap.size w w' := by
  have Hn := hid hn
  have Hr := hid hr
  have G := hid g
  clear hn hr g
  go_enter Try.func37, Try.ntmps37
  go_wp2_with fail
  refine (sIs_any _ _ _ _ es _ (by omega) Hn.out (Hr.out.on (on_alloc _ _))).mono ?_
  rw [decide_eq_true G.out]
  rintro e' w2 ⟨rfl, hb2⟩
  have HB2 := hid (bfrom (w := w) (on_alloc _ _) hb2)
  have HX2 := hid ((Box.new w s p n c 30).on hb2)
  have hx2 := HX2.out.1
  have hz2 := HX2.out.lt
  clear hb2
  go_wp2
  go_ret2
  exact ⟨rfl, HB2.out⟩


set_option maxRecDepth 100000 in
set_option maxHeartbeats 4000000 in
theorem sStrongNumber_yes (s : Nat) (b off n c : Nat) (es : List (Int × Int)) (w : World) (hn : es.length = n) (hr : ReadsE w b off es) (g : IsG s es) (hs : (s : Int) ≤ 10) :
    Calls Try.prog 37 #[.agg #[.int .i64 s, .slice (some ⟨b, off, none⟩) n c]] w fun e' w' => e' = .returned (.tuple #[.int .i64 (leastX (closeB es) n : Nat), .int .i64 0]) ∧ Below w.heap.size w w' := by
  have hn30 : n ≤ 30 := by have := isG_len g; omega
  have h1n : 1 ≤ n := by have := g.1.1.2.2.2; have := g.1.1.1; omega
  have Hn := hid hn
  have Hr := hid hr
  have G := hid g
  have HC := hid (show leastX (outS es 0 false n) n = leastX (closeB es) n from leastX_cong (by omega) (fun i j hj hi => by rw [← hn]; exact outS_close hj (by omega)))
  clear hn hr g
  go_enter Try.func37, Try.ntmps37
  go_wp2_with fail
  refine (sIs_any _ _ _ _ es _ (by omega) Hn.out (SeesE.on (.inr ⟨b, off, rfl, Hr.out⟩) (on_alloc _ _))).mono ?_
  rw [decide_eq_true G.out]
  rintro e' w2 ⟨rfl, hb2⟩
  have HB2 := hid (bfrom (w := w) (on_alloc _ _) hb2)
  have HX2 := hid ((Box.new w s (some ⟨b, off, none⟩) n c 30).on hb2)
  have hx2 := HX2.out.1
  have hy2 := HX2.out.2
  have hz2 := HX2.out.lt
  clear hb2
  go_wp2_with fail
  refine (sRowsF_any s b off n c es _ Hn.out (Hr.out.on HB2.out) G.out).mono ?_
  rintro e' w3 ⟨g3, cap3, bs, rfl, hbs, hO, hR, hb3⟩
  have HB3 := hid (bfrom HB2.out hb3)
  have HM3 := hid (And.intro hbs (And.intro hO hR))
  clear hb3 hbs hO hR hx2 hy2
  go_wp2_with fail
  refine (sLeast_any n g3 cap3 _ bs (outS es 0 false n) w3 (by omega) HM3.out.1 HM3.out.2.1 HM3.out.2.2).mono ?_
  rw [HC.out]
  rintro e' w4 ⟨rfl, hb4⟩
  have HB4 := hid (bfrom HB3.out hb4)
  clear hb4
  go_wp2
  go_ret2
  exact ⟨rfl, HB4.out⟩

theorem sStrongNumber_any (s : Int) (p0 : Option Addr) (n c : Nat) (es : List (Int × Int)) (w : World) (hm : n ≤ 1048576) (hn : es.length = n) (hr : SeesE w p0 es) :
    Calls Try.prog 37 #[.agg #[.int .i64 s, .slice p0 n c]] w fun e' w' => e' = .returned (.tuple #[.int .i64 (fStrongNumber s es).1, .int .i64 (fStrongNumber s es).2]) ∧ Below w.heap.size w w' := by
  unfold fStrongNumber
  by_cases g : IsG s es
  · rw [if_pos g]
    by_cases hs : s ≤ 10
    · rw [if_pos hs]
      obtain ⟨b, off, rfl, rd⟩ := isG_sees g hr
      obtain ⟨N, rfl⟩ : ∃ N : Nat, s = N := ⟨_, (Int.toNat_of_nonneg (by have := g.1.1.1; omega)).symm⟩
      rw [hn]
      exact sStrongNumber_yes N b off n c es w hn rd g hs
    · rw [if_neg hs]
      exact sStrongNumber_big s p0 n c es w hm hn hr g (by omega)
  · rw [if_neg g]
    exact sStrongNumber_none s p0 n c es w hm hn hr g

set_option maxRecDepth 100000 in
set_option maxHeartbeats 4000000 in
theorem iStrongNumber_any (s : Int) (p0 : Option Addr) (n c : Nat) (es : List (Int × Int)) (w : World) (hm : n ≤ 1048576) (hn : es.length = n) (hr : SeesE w p0 es) :
    Calls Try.prog 38 #[.agg #[.int .i64 s, .slice p0 n c]] w fun e' w' => e' = .returned (.tuple #[.int .i64 (fStrongNumber s es).1, .int .i64 (fStrongNumber s es).2]) ∧ Below w.heap.size w w' := by
  obtain ⟨F, hF⟩ : ∃ F, fStrongNumber s es = F := ⟨_, rfl⟩
  rw [hF]
  have HB1 := hid (on_alloc w (.cells #[.int .i64 s, .slice p0 n c] 30))
  have HC : Hid (∀ W, Below w.heap.size w W → Calls Try.prog 82 #[.agg #[.int .i64 s, .slice p0 n c], .func (.func 69) #[] #[]] W fun e' w' => e' = .returned (.tuple #[.int .i64 F.1, .int .i64 F.2]) ∧ Below W.heap.size W w') := hid fun W hW => by
    rw [← hF]
    unfold fStrongNumber
    by_cases g : IsG s es
    · rw [if_pos g]
      by_cases hs : s ≤ 10
      · rw [if_pos hs]
        obtain ⟨b, off, rfl, rd⟩ := isG_sees g hr
        obtain ⟨N, rfl⟩ : ∃ N : Nat, s = N := ⟨_, (Int.toNat_of_nonneg (by have := g.1.1.1; omega)).symm⟩
        have hn30 : n ≤ 30 := by have := isG_len g; omega
        have h2n : 2 ≤ n := by have := g.1.1.2.2.2; have := g.1.1.1; omega
        have eg : ∀ args w, (callFunc 69 args).run Try.prog w = .ok (.enter 69 args) w := enters_of Try.func69 (by kernel_rfl) rfl
        rw [hn]
        exact iLeastDif_yes N 69 n (closeB es) b off n c es W hn (rd.on hW) g hs eg (fun W2 hW2 => iCloseRows_any N b off n c es W2 hn ((rd.on hW).on hW2) h2n hn30) (by omega)
      · rw [if_neg hs]
        exact iLeastDif_big s 69 p0 n c es W hm hn (hr.on hW) g (by omega)
    · rw [if_neg g]
      exact iLeastDif_none s 69 p0 n c es W hm hn (hr.on hW) g
  clear hF hm hn hr
  go_enter Try.func38, Try.ntmps38
  go_wp2_with fail
  refine (HC.out _ HB1.out).mono ?_
  rintro e' w2 ⟨rfl, hb2⟩
  have HB2 := hid (bfrom HB1.out hb2)
  clear hb2
  go_wp2
  go_ret2
  exact ⟨rfl, HB2.out⟩

end Go.Proofs.Ytonlpihbpbnnmaa
