/- IsCircular at any argument, in the model and in the program. -/
import Derived.Test.YtonlpihbpbnnmaaCirS
import Derived.Test.YtonlpihbpbnnmaaCirI
namespace Go.Proofs.Ytonlpihbpbnnmaa
open Go.RowKit


set_option maxRecDepth 100000 in
set_option maxHeartbeats 4000000 in
theorem sIsCircular_none (s k d : Int) (p pq : Option Addr) (n c m mc : Nat) (es : List (Int × Int)) (w : World) (hm : n ≤ 1048576) (hn : es.length = n) (hr : SeesE w p es) (g : ¬ IsG s es) :
    Calls Try.prog 20 #[.agg #[.int .i64 s, .slice p n c], .int .i64 k, .int .i64 d, .slice pq m mc] w fun e' w' => e' = .returned (.tuple #[.bool false, .int .i64 1]) ∧ Below w.heap.size w w' := by
  have Hn := hid hn
  have Hr := hid hr
  clear hn hr
  have G := hid g
  clear g
  go_enter Try.func20, Try.ntmps20
  go_wp2_with fail
  refine (sIs_any _ _ _ _ es _ (by omega) Hn.out (Hr.out.on (on_alloc _ _))).mono ?_
  rw [decide_eq_false G.out]
  rintro e' w2 ⟨rfl, hb2⟩
  have HB2 := hid (bfrom (w := w) (on_alloc _ _) hb2)
  have HX2 := hid ((Box.new w s p n c 30).on hb2)
  have hx2 := HX2.out.1
  have hy2 := HX2.out.2
  have hz2 := HX2.out.lt
  clear hb2
  go_wp2
  go_ret2
  exact ⟨rfl, HB2.out⟩


set_option maxRecDepth 100000 in
set_option maxHeartbeats 4000000 in
theorem sIsCircular_kd (s k d : Int) (p pq : Option Addr) (n c m mc : Nat) (es : List (Int × Int)) (w : World) (hm : n ≤ 1048576) (hn : es.length = n) (hr : SeesE w p es) (g : IsG s es) (hc : ¬ circOk k d) :
    Calls Try.prog 20 #[.agg #[.int .i64 s, .slice p n c], .int .i64 k, .int .i64 d, .slice pq m mc] w fun e' w' => e' = .returned (.tuple #[.bool false, .int .i64 2]) ∧ Below w.heap.size w w' := by
  have Hn := hid hn
  have Hr := hid hr
  clear hn hr
  have G := hid g
  have HC := hid (show decide (circOk k d) = false from decide_eq_false hc)
  clear g hc
  go_enter Try.func20, Try.ntmps20
  go_wp2_with fail
  refine (sIs_any _ _ _ _ es _ (by omega) Hn.out (Hr.out.on (on_alloc _ _))).mono ?_
  rw [decide_eq_true G.out]
  rintro e' w2 ⟨rfl, hb2⟩
  have HB2 := hid (bfrom (w := w) (on_alloc _ _) hb2)
  have HX2 := hid ((Box.new w s p n c 30).on hb2)
  have hx2 := HX2.out.1
  have hy2 := HX2.out.2
  have hz2 := HX2.out.lt
  clear hb2
  go_wp2_with (go_at_call 60; refine (sNumbers_any k d _).mono ?_; rw [HC.out]; rintro e' w' ⟨rfl, rfl⟩)
  go_ret2
  exact ⟨rfl, HB2.out⟩


set_option maxRecDepth 100000 in
set_option maxHeartbeats 4000000 in
theorem sIsCircular_len (s k d : Int) (p pq : Option Addr) (n c m mc : Nat) (es : List (Int × Int)) (w : World) (hm : n ≤ 1048576) (hn : es.length = n) (hr : SeesE w p es) (g : IsG s es) (hc : circOk k d) (hl : m ≠ n) (_hm9 : m ≤ 1048576) :
    Calls Try.prog 20 #[.agg #[.int .i64 s, .slice p n c], .int .i64 k, .int .i64 d, .slice pq m mc] w fun e' w' => e' = .returned (.tuple #[.bool false, .int .i64 2]) ∧ Below w.heap.size w w' := by
  have Hn := hid hn
  have Hr := hid hr
  clear hn hr
  have G := hid g
  have HC := hid (show decide (circOk k d) = true from decide_eq_true hc)
  have hl1 : ((m : Int) != (n : Int)) = true := by simp; omega
  clear g hc hl
  go_enter Try.func20, Try.ntmps20
  go_wp2_with fail
  refine (sIs_any _ _ _ _ es _ (by omega) Hn.out (Hr.out.on (on_alloc _ _))).mono ?_
  rw [decide_eq_true G.out]
  rintro e' w2 ⟨rfl, hb2⟩
  have HB2 := hid (bfrom (w := w) (on_alloc _ _) hb2)
  have HX2 := hid ((Box.new w s p n c 30).on hb2)
  have hx2 := HX2.out.1
  have hy2 := HX2.out.2
  have hz2 := HX2.out.lt
  clear hb2
  go_wp2_with (go_at_call 60; refine (sNumbers_any k d _).mono ?_; rw [HC.out]; rintro e' w' ⟨rfl, rfl⟩)
  go_ret2
  exact ⟨rfl, HB2.out⟩


set_option maxRecDepth 100000 in
set_option maxHeartbeats 4000000 in
theorem iIsCircular_code (s k d : Int) (p pq : Option Addr) (n c m mc : Nat) (es : List (Int × Int)) (w : World) (hm : n ≤ 1048576) (hn : es.length = n) (hr : SeesE w p es) (q : Int) (hq : circCode s es k d = q) (hne : (q != 0) = true) :
    Calls Try.prog 22 #[.agg #[.int .i64 s, .slice p n c], .int .i64 k, .int .i64 d, .slice pq m mc] w fun e' w' => e' = .returned (.tuple #[.bool false, .int .i64 q]) ∧ Below w.heap.size w w' := by
  have Hn := hid hn
  have Hr := hid hr
  clear hn hr
  have HC := hid hq
  clear hq
  go_enter Try.func22, Try.ntmps22
  go_wp2_with fail
  refine (iCodeC_any s k d p n c es _ hm Hn.out (Hr.out.on (on_alloc _ _))).mono ?_
  rw [HC.out]
  rintro e' w2 ⟨rfl, hb2⟩
  have HB2 := hid (bfrom (w := w) (on_alloc _ _) hb2)
  have HX2 := hid ((Box.new w s p n c 30).on hb2)
  have hx2 := HX2.out.1
  have hy2 := HX2.out.2
  have hz2 := HX2.out.lt
  clear hb2
  go_wp2
  go_ret2
  exact ⟨rfl, HB2.out⟩


set_option maxRecDepth 100000 in
set_option maxHeartbeats 4000000 in
theorem iIsCircular_len (s k d : Int) (p pq : Option Addr) (n c m mc : Nat) (es : List (Int × Int)) (w : World) (hm : n ≤ 1048576) (hn : es.length = n) (hr : SeesE w p es) (hq : circCode s es k d = 0) (hl : m ≠ n) (_hm9 : m ≤ 1048576) :
    Calls Try.prog 22 #[.agg #[.int .i64 s, .slice p n c], .int .i64 k, .int .i64 d, .slice pq m mc] w fun e' w' => e' = .returned (.tuple #[.bool false, .int .i64 2]) ∧ Below w.heap.size w w' := by
  have Hn := hid hn
  have Hr := hid hr
  clear hn hr
  have HC := hid hq
  have hl1 : ((m : Int) != (n : Int)) = true := by simp; omega
  clear hq hl
  go_enter Try.func22, Try.ntmps22
  go_wp2_with fail
  refine (iCodeC_any s k d p n c es _ hm Hn.out (Hr.out.on (on_alloc _ _))).mono ?_
  rw [HC.out]
  rintro e' w2 ⟨rfl, hb2⟩
  have HB2 := hid (bfrom (w := w) (on_alloc _ _) hb2)
  have HX2 := hid ((Box.new w s p n c 30).on hb2)
  have hx2 := HX2.out.1
  have hy2 := HX2.out.2
  have hz2 := HX2.out.lt
  clear hb2
  go_wp2
  go_ret2
  exact ⟨rfl, HB2.out⟩


set_option maxRecDepth 100000 in
set_option maxHeartbeats 4000000 in
theorem iIsCircular_yes (s k d : Int) (b off n c mc : Nat) (p : Option Addr) (es : List (Int × Int)) (xs : List Int) (w : World) (hn : es.length = n) (hr : ReadsE w b off es) (g : IsG s es) (hx : xs.length = n) (hrx : SeesI w p xs) (hkd : circOk k d) :
    Calls Try.prog 22 #[.agg #[.int .i64 s, .slice (some ⟨b, off, none⟩) n c], .int .i64 k, .int .i64 d, .slice p n mc] w fun e' w' => e' = .returned (.tuple #[.bool (decide (suitP k d (nearB es) xs)), .int .i64 0]) ∧ Below w.heap.size w w' := by
  have hn30 : n ≤ 30 := by have := isG_len g; omega
  have h2n : 2 ≤ n := by have := g.1.1.2.2.2; have := g.1.1.1; omega
  have hk1 : 0 ≤ k ∧ k ≤ 1000 := by have := hkd.1; omega
  have hd1 : 0 ≤ d ∧ d ≤ 1000 := by have := hkd.1; have := hkd.2; omega
  have Hn := hid hn
  have Hr := hid hr
  have Hx := hid hx
  have Hrx := hid hrx
  have HC := hid (show circCode s es k d = 0 by unfold circCode; rw [if_pos g, if_pos hkd])
  clear hn hr g hx hrx hkd
  go_enter Try.func22, Try.ntmps22
  go_wp2_with fail
  refine (iCodeC_any s k d _ n c es _ (by omega) Hn.out (SeesE.on (.inr ⟨b, off, rfl, Hr.out⟩) (on_alloc _ _))).mono ?_
  rw [HC.out]
  rintro e' w2 ⟨rfl, hb2⟩
  have HB2 := hid (bfrom (w := w) (on_alloc _ _) hb2)
  have HX2 := hid ((Box.new w s (some ⟨b, off, none⟩) n c 30).on hb2)
  have hx2 := HX2.out.1
  have hy2 := HX2.out.2
  have hz2 := HX2.out.lt
  clear hb2
  go_wp2_with fail
  refine (iNearRows_any s b off n c es _ Hn.out (Hr.out.on HB2.out) h2n hn30).mono ?_
  rintro e' w3 ⟨⟨q, rfl, hs⟩, hb3⟩
  have HB3 := hid (bfrom HB2.out hb3)
  have HS := hid hs
  clear hb3 hs hx2 hy2
  go_wp2_with fail
  refine (iSuits_any k d (nearB es) p q n mc n xs _ hk1 hd1 Hx.out (by omega) (by omega) (Hrx.out.on HB3.out) HS.out).mono ?_
  rintro e' w4 ⟨rfl, hb4⟩
  have HB4 := hid (bfrom HB3.out hb4)
  clear hb4
  go_wp2
  go_ret2
  exact ⟨rfl, HB4.out⟩


theorem sIsCircular_any (s : Int) (p0 : Option Addr) (n c : Nat) (es : List (Int × Int)) (k d : Int) (ps : Option Addr) (m f : Nat) (xs : List Int) (w : World) (hm : n ≤ 1048576) (hn : es.length = n) (hr : SeesE w p0 es) (hk : m ≤ 1048576) (hx : xs.length = m) (hrx : SeesI w ps xs) :
    Calls Try.prog 20 #[.agg #[.int .i64 s, .slice p0 n c], .int .i64 k, .int .i64 d, .slice ps m f] w fun e' w' => e' = .returned (.tuple #[.bool (fIsCircular s es k d xs).1, .int .i64 (fIsCircular s es k d xs).2]) ∧ Below w.heap.size w w' := by
  unfold fIsCircular
  by_cases g : IsG s es
  · rw [if_pos g]
    by_cases hc : circOk k d
    · by_cases hl : m = n
      · subst hl
        rw [if_pos ⟨hc, by rw [hx, hn]⟩]
        obtain ⟨b, off, rfl, rd⟩ := isG_sees g hr
        exact sIsCircular_yes s k d b off m c f ps es xs w hn rd g hx hrx hc
      · rw [if_neg (fun h => hl (by have := h.2; omega))]
        exact sIsCircular_len s k d p0 ps n c m f es w hm hn hr g hc (by omega) hk
    · rw [if_neg (fun h => hc h.1)]
      exact sIsCircular_kd s k d p0 ps n c m f es w hm hn hr g hc
  · rw [if_neg g]
    exact sIsCircular_none s k d p0 ps n c m f es w hm hn hr g


theorem iIsCircular_any (s : Int) (p0 : Option Addr) (n c : Nat) (es : List (Int × Int)) (k d : Int) (ps : Option Addr) (m f : Nat) (xs : List Int) (w : World) (hm : n ≤ 1048576) (hn : es.length = n) (hr : SeesE w p0 es) (hk : m ≤ 1048576) (hx : xs.length = m) (hrx : SeesI w ps xs) :
    Calls Try.prog 22 #[.agg #[.int .i64 s, .slice p0 n c], .int .i64 k, .int .i64 d, .slice ps m f] w fun e' w' => e' = .returned (.tuple #[.bool (fIsCircular s es k d xs).1, .int .i64 (fIsCircular s es k d xs).2]) ∧ Below w.heap.size w w' := by
  unfold fIsCircular
  by_cases g : IsG s es
  · rw [if_pos g]
    by_cases hc : circOk k d
    · by_cases hl : m = n
      · subst hl
        rw [if_pos ⟨hc, by rw [hx, hn]⟩]
        obtain ⟨b, off, rfl, rd⟩ := isG_sees g hr
        exact iIsCircular_yes s k d b off m c f ps es xs w hn rd g hx hrx hc
      · rw [if_neg (fun h => hl (by have := h.2; omega))]
        exact iIsCircular_len s k d p0 ps n c m f es w hm hn hr (by unfold circCode; rw [if_pos g, if_pos hc]) (by omega) hk
    · rw [if_neg (fun h => hc h.1)]
      exact iIsCircular_code s k d p0 ps n c m f es w hm hn hr 2 (by unfold circCode; rw [if_pos g, if_neg hc]) rfl
  · rw [if_neg g]
    exact iIsCircular_code s k d p0 ps n c m f es w hm hn hr 1 (by unfold circCode; rw [if_neg g]) rfl


end Go.Proofs.Ytonlpihbpbnnmaa
