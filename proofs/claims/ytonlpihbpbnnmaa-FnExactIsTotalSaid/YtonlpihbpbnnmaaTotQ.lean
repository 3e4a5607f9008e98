/- IsTotal at any argument, in the model and in the program. -/
import Derived.Test.YtonlpihbpbnnmaaMxT
import Derived.Test.YtonlpihbpbnnmaaMxU
import Derived.Test.YtonlpihbpbnnmaaTotI
namespace Go.Proofs.Ytonlpihbpbnnmaa
open Go.RowKit


set_option maxRecDepth 100000 in
set_option maxHeartbeats 4000000 in
theorem sIsTotal_none (s k : Int) (p pq : Option Addr) (n c m mc : Nat) (es : List (Int × Int)) (w : World) (hm : n ≤ 1048576) (hn : es.length = n) (hr : SeesE w p es) (g : ¬ IsG s es) :
    Calls Try.prog 26 #[.agg #[.int .i64 s, .slice p n c], .int .i64 k, .slice pq m mc] w fun e' w' => e' = .returned (.tuple #[.bool false, .int .i64 1]) ∧ Below w.heap.size w w' := by
  have Hn := hid hn
  have Hr := hid hr
  clear hn hr
  have G := hid g
  clear g
  go_enter Try.func26, Try.ntmps26
  go_wp2_with fail
  refine (sIs_any _ _ _ _ es _ (by omega) Hn.out (Hr.out.on (on_alloc _ _))).mono ?_
  rw [decide_eq_false G.out]
  rintro e' w2 ⟨rfl, hb2⟩
  have HB2 := hid (bfrom (w := w) (on_alloc _ _) hb2)
  have HX2 := hid ((Box.new w s p n c 30).on hb2)
  have hx2 := HX2.out.1
  have hy2 := HX2.out.2
  have hz2 := HX2.out.lt
  clear hb2
  go_wp2
  go_ret2
  exact ⟨rfl, HB2.out⟩


set_option maxRecDepth 100000 in
set_option maxHeartbeats 4000000 in
theorem sIsTotal_k (s k : Int) (p pq : Option Addr) (n c m mc : Nat) (es : List (Int × Int)) (w : World) (hm : n ≤ 1048576) (hn : es.length = n) (hr : SeesE w p es) (g : IsG s es) (hk : ¬ (1 ≤ k ∧ k ≤ 20)) :
    Calls Try.prog 26 #[.agg #[.int .i64 s, .slice p n c], .int .i64 k, .slice pq m mc] w fun e' w' => e' = .returned (.tuple #[.bool false, .int .i64 2]) ∧ Below w.heap.size w w' := by
  have Hn := hid hn
  have Hr := hid hr
  clear hn hr
  have G := hid g
  have HK := hid (show k < 1 ∨ 20 < k by omega)
  clear g hk
  go_enter Try.func26, Try.ntmps26
  go_wp2_with fail
  refine (sIs_any _ _ _ _ es _ (by omega) Hn.out (Hr.out.on (on_alloc _ _))).mono ?_
  rw [decide_eq_true G.out]
  rintro e' w2 ⟨rfl, hb2⟩
  have HB2 := hid (bfrom (w := w) (on_alloc _ _) hb2)
  have HX2 := hid ((Box.new w s p n c 30).on hb2)
  have hx2 := HX2.out.1
  have hy2 := HX2.out.2
  have hz2 := HX2.out.lt
  clear hb2
  go_wp2_with fail
  refine (sIn_no _ _ _ _ HK.out).mono ?_
  rintro e' w' ⟨rfl, rfl⟩
  go_wp2
  go_ret2
  exact ⟨rfl, HB2.out⟩


set_option maxRecDepth 100000 in
set_option maxHeartbeats 4000000 in
theorem sIsTotal_len (s k : Int) (p pq : Option Addr) (n c m mc : Nat) (es : List (Int × Int)) (w : World) (hm : n ≤ 1048576) (hn : es.length = n) (hr : SeesE w p es) (g : IsG s es) (hk : 1 ≤ k ∧ k ≤ 20) (hl : (m : Int) ≠ s + n) (_hm9 : m ≤ 1048576) :
    Calls Try.prog 26 #[.agg #[.int .i64 s, .slice p n c], .int .i64 k, .slice pq m mc] w fun e' w' => e' = .returned (.tuple #[.bool false, .int .i64 2]) ∧ Below w.heap.size w w' := by
  have Hn := hid hn
  have Hr := hid hr
  clear hn hr
  have G := hid g
  have HK := hid hk
  obtain ⟨SN, hSN⟩ : ∃ SN : Int, s + (n : Int) = SN := ⟨_, rfl⟩
  have hsb : 0 ≤ s ∧ s ≤ 20 := by have := g.1.1.2.1; have := g.1.1.1; omega
  have hl1 : ((m : Int) != SN) = true := by simp; omega
  clear g hk hl
  go_enter Try.func26, Try.ntmps26
  go_wp2_with fail
  refine (sIs_any _ _ _ _ es _ (by omega) Hn.out (Hr.out.on (on_alloc _ _))).mono ?_
  rw [decide_eq_true G.out]
  rintro e' w2 ⟨rfl, hb2⟩
  have HB2 := hid (bfrom (w := w) (on_alloc _ _) hb2)
  have HX2 := hid ((Box.new w s p n c 30).on hb2)
  have hx2 := HX2.out.1
  have hy2 := HX2.out.2
  have hz2 := HX2.out.lt
  clear hb2
  go_wp2_with fail
  refine (sIn_yes _ _ _ _ HK.out).mono ?_
  rintro e' w' ⟨rfl, rfl⟩
  go_wp2
  go_ret2
  exact ⟨rfl, HB2.out⟩


set_option maxRecDepth 100000 in
set_option maxHeartbeats 4000000 in
theorem sIsTotal_yes (s : Nat) (k : Int) (b off n c mc : Nat) (p : Option Addr) (es : List (Int × Int)) (xs : List Int) (w : World) (hn : es.length = n) (hr : ReadsE w b off es) (g : IsG s es) (hx : xs.length = s + n) (hrx : SeesI w p xs) (hk : 1 ≤ k ∧ k ≤ 20) :
    Calls Try.prog 26 #[.agg #[.int .i64 s, .slice (some ⟨b, off, none⟩) n c], .int .i64 k, .slice p (s + n) mc] w fun e' w' => e' = .returned (.tuple #[.bool (decide (suitP k 1 (totB s es) xs)), .int .i64 0]) ∧ Below w.heap.size w w' := by
  have hn30 : n ≤ 30 := by have := isG_len g; omega
  have h1n : 1 ≤ n := by have := g.1.1.2.2.2; have := g.1.1.1; omega
  have Hn := hid hn
  have Hr := hid hr
  have G := hid g
  have Hx := hid hx
  have Hrx := hid hrx
  have HK := hid hk
  have HC := hid (suit_cong (k := k) (d := 1) (M := outS es s true n) (M' := totB s es) (xs := xs) (fun i hi j hj => by rw [← hn]; exact outS_tot g hj (by omega)))
  obtain ⟨N, hN⟩ : ∃ N, s + n = N := ⟨_, rfl⟩
  have hN2 : (s : Int) + (n : Int) = (N : Int) := by omega
  have hs20 : s ≤ 20 := by have := g.1.1.2.1; omega
  have hN60 : N ≤ 60 ∧ 1 ≤ N := by omega
  have HN := hid hN
  rw [hN] at Hx ⊢
  clear hn hr g hx hrx hN
  go_enter Try.func26, Try.ntmps26
  go_wp2_with fail
  refine (sIs_any _ _ _ _ es _ (by omega) Hn.out (SeesE.on (.inr ⟨b, off, rfl, Hr.out⟩) (on_alloc _ _))).mono ?_
  rw [decide_eq_true G.out]
  rintro e' w2 ⟨rfl, hb2⟩
  have HB2 := hid (bfrom (w := w) (on_alloc _ _) hb2)
  have HX2 := hid ((Box.new w s (some ⟨b, off, none⟩) n c 30).on hb2)
  have hx2 := HX2.out.1
  have hy2 := HX2.out.2
  have hz2 := HX2.out.lt
  clear hb2
  go_wp2_with fail
  refine (sIn_yes _ _ _ _ HK.out).mono ?_
  rintro e' w' ⟨rfl, rfl⟩
  go_wp2_with fail
  refine (sRowsT_any s b off n c es _ Hn.out (Hr.out.on HB2.out) G.out).mono ?_
  rw [HN.out]
  rintro e' w3 ⟨g3, cap3, bs, rfl, hbs, hO, hR, hb3⟩
  have HB3 := hid (bfrom HB2.out hb3)
  have HM3 := hid (And.intro hbs (And.intro hO hR))
  clear hb3 hbs hO hR hx2 hy2
  go_wp2_with fail
  refine (sProper_any k g3 cap3 _ N mc bs (outS es s true n) p xs w3 (by omega) Hx.out hN60.1 hN60.2 HM3.out.1 HM3.out.2.1 HM3.out.2.2 (Hrx.out.on HB3.out)).mono ?_
  rw [decide_eq_decide.2 HC.out]
  rintro e' w4 ⟨rfl, hb4⟩
  have HB4 := hid (bfrom HB3.out hb4)
  clear hb4
  go_wp2
  go_ret2
  exact ⟨rfl, HB4.out⟩

theorem sIsTotal_any (s : Int) (p0 : Option Addr) (n c : Nat) (es : List (Int × Int)) (k : Int) (ps : Option Addr) (m f : Nat) (xs : List Int) (w : World) (hm : n ≤ 1048576) (hn : es.length = n) (hr : SeesE w p0 es) (hk : m ≤ 1048576) (hx : xs.length = m) (hrx : SeesI w ps xs) :
    Calls Try.prog 26 #[.agg #[.int .i64 s, .slice p0 n c], .int .i64 k, .slice ps m f] w fun e' w' => e' = .returned (.tuple #[.bool (fIsTotal s es k xs).1, .int .i64 (fIsTotal s es k xs).2]) ∧ Below w.heap.size w w' := by
  unfold fIsTotal
  by_cases g : IsG s es
  · rw [if_pos g]
    by_cases hc : 1 ≤ k ∧ k ≤ 20
    · obtain ⟨N, rfl⟩ : ∃ N : Nat, s = N := ⟨_, (Int.toNat_of_nonneg (by have := g.1.1.1; omega)).symm⟩
      rw [Int.toNat_natCast]
      by_cases hl : m = N + n
      · subst hl
        rw [if_pos ⟨hc, by rw [hx, hn]⟩]
        obtain ⟨b, off, rfl, rd⟩ := isG_sees g hr
        exact sIsTotal_yes N k b off n c f ps es xs w hn rd g hx hrx hc
      · rw [if_neg (fun h => hl (by have := h.2; omega))]
        exact sIsTotal_len N k p0 ps n c m f es w hm hn hr g hc (by omega) hk
    · rw [if_neg (fun h => hc h.1)]
      exact sIsTotal_k s k p0 ps n c m f es w hm hn hr g hc
  · rw [if_neg g]
    exact sIsTotal_none s k p0 ps n c m f es w hm hn hr g

set_option maxRecDepth 100000 in
set_option maxHeartbeats 4000000 in
theorem iIsTotal_any (s : Int) (p0 : Option Addr) (n c : Nat) (es : List (Int × Int)) (k : Int) (ps : Option Addr) (m f : Nat) (xs : List Int) (w : World) (hm : n ≤ 1048576) (hn : es.length = n) (hr : SeesE w p0 es) (hk : m ≤ 1048576) (hx : xs.length = m) (hrx : SeesI w ps xs) :
    Calls Try.prog 27 #[.agg #[.int .i64 s, .slice p0 n c], .int .i64 k, .slice ps m f] w fun e' w' => e' = .returned (.tuple #[.bool (fIsTotal s es k xs).1, .int .i64 (fIsTotal s es k xs).2]) ∧ Below w.heap.size w w' := by
  obtain ⟨F, hF⟩ : ∃ F, fIsTotal s es k xs = F := ⟨_, rfl⟩
  rw [hF]
  have HF := hid hF
  have HB1 := hid (on_alloc w (.cells #[.int .i64 s, .slice p0 n c] 30))
  have HC : Hid (∀ W, Below w.heap.size w W → Calls Try.prog 68 #[.agg #[.int .i64 s, .slice p0 n c], .int .i64 k, .slice ps m f, .func (.func 70) #[] #[]] W fun e' w' => e' = .returned (.tuple #[.bool F.1, .int .i64 F.2]) ∧ Below W.heap.size W w') := hid fun W hW => by
    rw [← hF]
    unfold fIsTotal
    by_cases g : IsG s es
    · rw [if_pos g]
      obtain ⟨b, off, rfl, rd⟩ := isG_sees g hr
      obtain ⟨N, rfl⟩ : ∃ N : Nat, s = N := ⟨_, (Int.toNat_of_nonneg (by have := g.1.1.1; omega)).symm⟩
      rw [Int.toNat_natCast]
      have hs20 : N ≤ 20 := by have := g.1.1.2.1; omega
      have hn30 : n ≤ 30 := by have := isG_len g; omega
      have h2n : 2 ≤ n := by have := g.1.1.2.2.2; have := g.1.1.1; omega
      have eg : ∀ args w, (callFunc 70 args).run Try.prog w = .ok (.enter 70 args) w := enters_of Try.func70 (by kernel_rfl) rfl
      refine (iAreDif_any N k 70 (N + n) (totB N es) b off n c m f ps es xs W hn (rd.on hW) g eg (fun W2 hW2 => iTotRows_any N b off n c es W2 hn ((rd.on hW).on hW2) g) (by omega) hx hk (hrx.on hW)).mono ?_
      rintro e' w' ⟨rfl, hb⟩
      refine ⟨?_, hb⟩
      by_cases hc : (1 ≤ k ∧ k ≤ 20) ∧ m = N + n
      · rw [if_pos hc, if_pos ⟨hc.1, by rw [hx, hn]; exact hc.2⟩]
      · rw [if_neg hc, if_neg (fun h => hc ⟨h.1, by have := h.2; omega⟩)]
    · rw [if_neg g]
      exact iAreDif_none s k 70 p0 ps n c m f es W hm hn (hr.on hW) g
  clear hF hm hn hr hk hx hrx
  go_enter Try.func27, Try.ntmps27
  go_wp2_with fail
  refine (HC.out _ HB1.out).mono ?_
  rintro e' w2 ⟨rfl, hb2⟩
  have HB2 := hid (bfrom HB1.out hb2)
  clear hb2
  go_wp2
  go_ret2
  exact ⟨rfl, HB2.out⟩


end Go.Proofs.Ytonlpihbpbnnmaa
