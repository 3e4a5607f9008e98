/- DotProduct in the program: the errors, and the product. -/
import Derived.Test.YtfdlhdgmbjdhbaaImplB
import Derived.Test.YtfdlhdgmbjdhbaaLawsD
import Derived.Test.YtfdlhdgmbjdhbaaImplG
import Derived.Test.YtfdlhdgmbjdhbaaGraphs
import Derived.Test.YtfdlhdgmbjdhbaaDotP
import Derived.Test.YtfdlhdgmbjdhbaaDotF
import Derived.Test.YtfdlhdgmbjdhbaaNearI
import Derived.Test.YtfdlhdgmbjdhbaaCntI
import Derived.Deep.RegionWith
import Derived.Deep.DeepCutAuto

/- Two numbers below a bound, in the program. -/
namespace Go.Proofs.Ytfdlhdgmbjdhbaa
open Go.RowKit

set_option maxRecDepth 100000 in
set_option maxHeartbeats 2000000 in
theorem iAreBelowD_any (N : Int) (b off m c : Nat) (xs : List Int) (w : World) (hx : xs.length = m) (hm : m ≤ 1048576) (hr : ReadsI w b off xs) :
    Calls Try.prog 35 #[.int .i64 N, .slice (some ⟨b, off, none⟩) m c] w fun e w' => e = .returned (.bool (decide (∀ i, i < m → 0 ≤ eI xs i ∧ eI xs i < N))) ∧ w' = w := by
  have Hx := hid hx
  have Hr := hid hr
  have hm9 : m ≤ 9223372036854775807 := by omega
  obtain ⟨r, hR⟩ : ∃ r, decide (∀ i, i < m → 0 ≤ eI xs i ∧ eI xs i < N) = r := ⟨_, rfl⟩
  rw [hR]
  have HR := hid hR
  clear hx hr hR
  go_enter Try.func35, Try.ntmps35
  go_wp2
  go_loop [9] (fun i => ∃ k : Nat, k ≤ m ∧ i = .int .i64 k ∧ Hid (∀ j, j < k → 0 ≤ eI xs j ∧ eI xs j < N)) (fun i => m - (intOf i).toNat)
  case atStart => exact ⟨0, Nat.zero_le _, rfl, hid (fun j hj => by omega)⟩
  case round =>
    obtain ⟨k, hk, rfl, hE⟩ := hrel
    by_cases hlt : k < m
    · have hlt' : (k : Int) < (m : Int) := by omega
      have h1 := Hr.out k (by have := Hx.out; omega)
      obtain ⟨y, hy⟩ : ∃ y, eI xs k = y := ⟨_, rfl⟩
      rw [hy] at h1
      have HY := hid hy
      clear hy
      by_cases hv : 0 ≤ y ∧ y < N
      · have Hv := hid hv
        clear hv
        go_wp2_with (go_at_call 71; refine (iBelow_yes _ _ _ Hv.out).mono ?_; rintro e' w' ⟨rfl, rfl⟩)
        go_round
        case rel =>
          refine ⟨k + 1, by omega, by go_num, hid (fun j hj => ?_)⟩
          rcases Nat.lt_or_ge j k with h | h
          · exact hE.out j h
          · have ej : j = k := by omega
            rw [ej, HY.out]
            exact Hv.out
        case measure => simp [intOf]; omega
      · have Hv := hid hv
        clear hv
        go_wp2_with (go_at_call 71; refine (iBelow_no _ _ _ Hv.out).mono ?_; rintro e' w' ⟨rfl, rfl⟩)
        go_ret
        refine ⟨?_, rfl⟩
        rw [← HR.out, decide_eq_false (fun h => Hv.out (by have h1 := h k hlt; rwa [HY.out] at h1))]
        rfl
    · have hkn := hid (show k = m by omega)
      go_wp2
      go_ret
      refine ⟨?_, rfl⟩
      rw [← HR.out, decide_eq_true (fun j hj => hE.out j (by have := hkn.out; omega))]
      rfl

theorem iBelowD_any (N e f : Int) (g c : Nat) (w : World) (u : Bool) (hu : u = true ↔ (0 ≤ e ∧ e < N) ∧ (0 ≤ f ∧ f < N)) (hr : ReadsI w g 0 [e, f]) :
    Calls Try.prog 35 #[.int .i64 N, .slice (some ⟨g, 0, none⟩) 2 c] w fun e' w' => e' = .returned (.bool u) ∧ w' = w := by
  refine (iAreBelowD_any N g 0 2 c [e, f] w rfl (by omega) hr).mono ?_
  rintro e' w' ⟨rfl, rfl⟩
  refine ⟨?_, rfl⟩
  congr 2
  rw [Bool.eq_iff_iff, decide_eq_true_iff, hu]
  constructor
  · intro h
    exact ⟨h 0 (by omega), h 1 (by omega)⟩
  · intro h i hi
    rcases (by omega : i = 0 ∨ i = 1) with rfl | rfl
    · exact h.1
    · exact h.2
theorem reads_twoY (w : World) (u v : Int) (t : TypeId) (g : Nat) (hg : g = w.heap.size) : ReadsI (w.alloc (.cells #[.int .i64 u, .int .i64 v] t)) g 0 [u, v] := fun i hi => by
  subst hg
  have hi' : i < 2 := by simpa using hi
  rcases (by omega : i = 0 ∨ i = 1) with rfl | rfl
  · simp [eI]
  · simp [eI]
theorem iBelowD_yes (N e f : Int) (g c : Nat) (w : World) (h : (0 ≤ e ∧ e < N) ∧ (0 ≤ f ∧ f < N)) (hr : ReadsI w g 0 [e, f]) :
    Calls Try.prog 35 #[.int .i64 N, .slice (some ⟨g, 0, none⟩) 2 c] w fun e' w' => e' = .returned (.bool true) ∧ w' = w := iBelowD_any N e f g c w true (iff_of_true rfl h) hr
theorem iBelowD_no (N e f : Int) (g c : Nat) (w : World) (h : ¬ ((0 ≤ e ∧ e < N) ∧ (0 ≤ f ∧ f < N))) (hr : ReadsI w g 0 [e, f]) :
    Calls Try.prog 35 #[.int .i64 N, .slice (some ⟨g, 0, none⟩) 2 c] w fun e' w' => e' = .returned (.bool false) ∧ w' = w := iBelowD_any N e f g c w false (iff_of_false (by simp) h) hr

end Go.Proofs.Ytfdlhdgmbjdhbaa

namespace Go.Proofs.Ytfdlhdgmbjdhbaa
open Go.RowKit Go.Lib

set_option maxRecDepth 100000 in
set_option maxHeartbeats 8000000 in
theorem iDp_g (s e f : Int) (p : Option Addr) (n c : Nat) (es : List (Int × Int)) (t a b' : Int) (q : Option Addr) (m d : Nat) (fs : List (Int × Int)) (w : World) (hm : n ≤ 1048576) (hn : es.length = n) (hr : SeesE w p es) (_hm2 : m ≤ 1048576) (hn2 : fs.length = m) (hr2 : SeesE w q fs) (g1 : ¬ IsG s es) :
    Calls Try.prog 9 #[.agg #[.int .i64 s, .slice p n c], .int .i64 e, .int .i64 f, .agg #[.int .i64 t, .slice q m d], .int .i64 a, .int .i64 b'] w fun e' w' => e' = .returned (.tuple #[.agg #[.int .i64 0, .slice none 0 0], .int .i64 1]) ∧ Below w.heap.size w w' := by
  have Hn := hid hn
  have Hr := hid hr
  have Hn2 := hid hn2
  have Hr2 := hid hr2
  have G1 := hid g1
  clear hn hr hn2 hr2 g1
  go_enter Try.func9, Try.ntmps9
  go_wp2_with fail
  refine (iIsGraph_any _ _ _ _ es _ (by omega) Hn.out (Hr.out.on (bfrom (bfrom (on_alloc _ _) (on_alloc _ _)) (on_alloc _ _)))).mono ?_
  rw [decide_eq_false G1.out]
  rintro e' w2 ⟨rfl, hb2⟩
  have HB2 := hid (bfrom (w := w) (bfrom (bfrom (on_alloc _ _) (on_alloc _ _)) (on_alloc _ _)) hb2)
  have HG2 := hid ((((GBox.new w w.heap.size rfl : GBox _ _ s p n c).on (on_alloc _ _)).on (on_alloc _ _)).on hb2)
  have HH2 := hid ((((GBox.new _ (w.heap.size + 1) (by simp) : GBox _ _ t q m d)).on (on_alloc _ _)).on hb2)
  have HK2 := hid ((GBox.new _ (w.heap.size + 1 + 1) (by simp) : GBox _ _ 0 none 0 0).on hb2)
  clear hb2
  have hx2 := HG2.out.box.1
  have hy2 := HG2.out.box.2
  have hl2 := HG2.out.lt
  have hu2 := HH2.out.box.1
  have hv2 := HH2.out.box.2
  have hw2 := HH2.out.lt
  have hkx2 := HK2.out.box.1
  have hky2 := HK2.out.box.2
  have hkl2 := HK2.out.lt
  have hfx2 := HK2.out.frozen 0
  have hfy2 := HK2.out.frozen 1
  go_wp2_with fail
  refine bodyPost_ret (v := .tuple #[.agg #[.int .i64 0, .slice none 0 0], .int .i64 1]) (by simp [results, Try.results9, go_sem, hkx2, hky2]) rfl ⟨rfl, ?_⟩
  have h := HB2.out
  go_grown

set_option maxRecDepth 100000 in
set_option maxHeartbeats 8000000 in
theorem iDp_h (s e f : Int) (p : Option Addr) (n c : Nat) (es : List (Int × Int)) (t a b' : Int) (q : Option Addr) (m d : Nat) (fs : List (Int × Int)) (w : World) (hm : n ≤ 1048576) (hn : es.length = n) (hr : SeesE w p es) (hm2 : m ≤ 1048576) (hn2 : fs.length = m) (hr2 : SeesE w q fs) (g1 : IsG s es) (g2 : ¬ IsG t fs) :
    Calls Try.prog 9 #[.agg #[.int .i64 s, .slice p n c], .int .i64 e, .int .i64 f, .agg #[.int .i64 t, .slice q m d], .int .i64 a, .int .i64 b'] w fun e' w' => e' = .returned (.tuple #[.agg #[.int .i64 0, .slice none 0 0], .int .i64 1]) ∧ Below w.heap.size w w' := by
  have Hn := hid hn
  have Hr := hid hr
  have Hn2 := hid hn2
  have Hr2 := hid hr2
  have G1 := hid g1
  have G2 := hid g2
  clear hn hr hn2 hr2 g1 g2
  go_enter Try.func9, Try.ntmps9
  go_wp2_with fail
  refine (iIsGraph_any _ _ _ _ es _ (by omega) Hn.out (Hr.out.on (bfrom (bfrom (on_alloc _ _) (on_alloc _ _)) (on_alloc _ _)))).mono ?_
  rw [decide_eq_true G1.out]
  rintro e' w2 ⟨rfl, hb2⟩
  have HB2 := hid (bfrom (w := w) (bfrom (bfrom (on_alloc _ _) (on_alloc _ _)) (on_alloc _ _)) hb2)
  have HG2 := hid ((((GBox.new w w.heap.size rfl : GBox _ _ s p n c).on (on_alloc _ _)).on (on_alloc _ _)).on hb2)
  have HH2 := hid ((((GBox.new _ (w.heap.size + 1) (by simp) : GBox _ _ t q m d)).on (on_alloc _ _)).on hb2)
  have HK2 := hid ((GBox.new _ (w.heap.size + 1 + 1) (by simp) : GBox _ _ 0 none 0 0).on hb2)
  clear hb2
  have hx2 := HG2.out.box.1
  have hy2 := HG2.out.box.2
  have hl2 := HG2.out.lt
  have hu2 := HH2.out.box.1
  have hv2 := HH2.out.box.2
  have hw2 := HH2.out.lt
  have hkx2 := HK2.out.box.1
  have hky2 := HK2.out.box.2
  have hkl2 := HK2.out.lt
  have hfx2 := HK2.out.frozen 0
  have hfy2 := HK2.out.frozen 1
  go_wp2_with fail
  refine (iIsGraph_any _ _ _ _ fs _ (by omega) Hn2.out (Hr2.out.on HB2.out)).mono ?_
  rw [decide_eq_false G2.out]
  rintro e' w3 ⟨rfl, hb3⟩
  have HB3 := hid (bfrom HB2.out hb3)
  have HG3 := hid (HG2.out.on hb3)
  have HH3 := hid (HH2.out.on hb3)
  have HK3 := hid (HK2.out.on hb3)
  clear hb3
  clear hx2 hy2 hl2 hu2 hv2 hw2 hkx2 hky2 hkl2 hfx2 hfy2
  have hx3 := HG3.out.box.1
  have hy3 := HG3.out.box.2
  have hl3 := HG3.out.lt
  have hu3 := HH3.out.box.1
  have hv3 := HH3.out.box.2
  have hw3 := HH3.out.lt
  have hkx3 := HK3.out.box.1
  have hky3 := HK3.out.box.2
  have hkl3 := HK3.out.lt
  have hfx3 := HK3.out.frozen 0
  have hfy3 := HK3.out.frozen 1
  go_wp2_with fail
  refine bodyPost_ret (v := .tuple #[.agg #[.int .i64 0, .slice none 0 0], .int .i64 1]) (by simp [results, Try.results9, go_sem, hkx3, hky3]) rfl ⟨rfl, ?_⟩
  have h := HB3.out
  go_grown

set_option maxRecDepth 100000 in
set_option maxHeartbeats 8000000 in
theorem iDp_e (s e f : Int) (p : Option Addr) (n c : Nat) (es : List (Int × Int)) (t a b' : Int) (q : Option Addr) (m d : Nat) (fs : List (Int × Int)) (w : World) (hm : n ≤ 1048576) (hn : es.length = n) (hr : SeesE w p es) (hm2 : m ≤ 1048576) (hn2 : fs.length = m) (hr2 : SeesE w q fs) (g1 : IsG s es) (g2 : IsG t fs) (hef : ¬ ((0 ≤ e ∧ e < n) ∧ (0 ≤ f ∧ f < n))) :
    Calls Try.prog 9 #[.agg #[.int .i64 s, .slice p n c], .int .i64 e, .int .i64 f, .agg #[.int .i64 t, .slice q m d], .int .i64 a, .int .i64 b'] w fun e' w' => e' = .returned (.tuple #[.agg #[.int .i64 0, .slice none 0 0], .int .i64 2]) ∧ Below w.heap.size w w' := by
  have Q1 := hid hef
  clear hef
  have Hn := hid hn
  have Hr := hid hr
  have Hn2 := hid hn2
  have Hr2 := hid hr2
  have G1 := hid g1
  have G2 := hid g2
  clear hn hr hn2 hr2 g1 g2
  go_enter Try.func9, Try.ntmps9
  go_wp2_with fail
  refine (iIsGraph_any _ _ _ _ es _ (by omega) Hn.out (Hr.out.on (bfrom (bfrom (on_alloc _ _) (on_alloc _ _)) (on_alloc _ _)))).mono ?_
  rw [decide_eq_true G1.out]
  rintro e' w2 ⟨rfl, hb2⟩
  have HB2 := hid (bfrom (w := w) (bfrom (bfrom (on_alloc _ _) (on_alloc _ _)) (on_alloc _ _)) hb2)
  have HG2 := hid ((((GBox.new w w.heap.size rfl : GBox _ _ s p n c).on (on_alloc _ _)).on (on_alloc _ _)).on hb2)
  have HH2 := hid ((((GBox.new _ (w.heap.size + 1) (by simp) : GBox _ _ t q m d)).on (on_alloc _ _)).on hb2)
  have HK2 := hid ((GBox.new _ (w.heap.size + 1 + 1) (by simp) : GBox _ _ 0 none 0 0).on hb2)
  clear hb2
  have hx2 := HG2.out.box.1
  have hy2 := HG2.out.box.2
  have hl2 := HG2.out.lt
  have hu2 := HH2.out.box.1
  have hv2 := HH2.out.box.2
  have hw2 := HH2.out.lt
  have hkx2 := HK2.out.box.1
  have hky2 := HK2.out.box.2
  have hkl2 := HK2.out.lt
  have hfx2 := HK2.out.frozen 0
  have hfy2 := HK2.out.frozen 1
  go_wp2_with fail
  refine (iIsGraph_any _ _ _ _ fs _ (by omega) Hn2.out (Hr2.out.on HB2.out)).mono ?_
  rw [decide_eq_true G2.out]
  rintro e' w3 ⟨rfl, hb3⟩
  have HB3 := hid (bfrom HB2.out hb3)
  have HG3 := hid (HG2.out.on hb3)
  have HH3 := hid (HH2.out.on hb3)
  have HK3 := hid (HK2.out.on hb3)
  clear hb3
  clear hx2 hy2 hl2 hu2 hv2 hw2 hkx2 hky2 hkl2 hfx2 hfy2
  have hx3 := HG3.out.box.1
  have hy3 := HG3.out.box.2
  have hl3 := HG3.out.lt
  have hu3 := HH3.out.box.1
  have hv3 := HH3.out.box.2
  have hw3 := HH3.out.lt
  have hkx3 := HK3.out.box.1
  have hky3 := HK3.out.box.2
  have hkl3 := HK3.out.lt
  have hfx3 := HK3.out.frozen 0
  have hfy3 := HK3.out.frozen 1
  go_wp2_with fail
  obtain ⟨W3, hW3⟩ : ∃ W3, W3 = w3.alloc (.cells #[.int .i64 e, .int .i64 f] 2) := ⟨_, rfl⟩
  rw [← hW3]
  refine (iBelowD_no (n : Int) e f w3.heap.size 2 W3 Q1.out (by rw [hW3]; exact reads_twoY _ _ _ _ _ rfl)).mono ?_
  rintro e' w4 ⟨rfl, rfl⟩
  have hb4 : Below w3.heap.size w3 w4 := by rw [hW3]; exact on_alloc _ _
  clear hW3
  have HB4 := hid (bfrom HB3.out hb4)
  have HG4 := hid (HG3.out.on hb4)
  have HH4 := hid (HH3.out.on hb4)
  have HK4 := hid (HK3.out.on hb4)
  clear hb4
  clear hx3 hy3 hl3 hu3 hv3 hw3 hkx3 hky3 hkl3 hfx3 hfy3
  have hx4 := HG4.out.box.1
  have hy4 := HG4.out.box.2
  have hl4 := HG4.out.lt
  have hu4 := HH4.out.box.1
  have hv4 := HH4.out.box.2
  have hw4 := HH4.out.lt
  have hkx4 := HK4.out.box.1
  have hky4 := HK4.out.box.2
  have hkl4 := HK4.out.lt
  have hfx4 := HK4.out.frozen 0
  have hfy4 := HK4.out.frozen 1
  go_wp2_with fail
  refine bodyPost_ret (v := .tuple #[.agg #[.int .i64 0, .slice none 0 0], .int .i64 2]) (by simp [results, Try.results9, go_sem, hkx4, hky4]) rfl ⟨rfl, ?_⟩
  have h := HB4.out
  go_grown

set_option maxRecDepth 100000 in
set_option maxHeartbeats 8000000 in
theorem iDp_v (s e f : Int) (p : Option Addr) (n c : Nat) (es : List (Int × Int)) (t a b' : Int) (q : Option Addr) (m d : Nat) (fs : List (Int × Int)) (w : World) (hm : n ≤ 1048576) (hn : es.length = n) (hr : SeesE w p es) (hm2 : m ≤ 1048576) (hn2 : fs.length = m) (hr2 : SeesE w q fs) (g1 : IsG s es) (g2 : IsG t fs) (hef : (0 ≤ e ∧ e < n) ∧ (0 ≤ f ∧ f < n)) (hab : ¬ ((0 ≤ a ∧ a < t) ∧ (0 ≤ b' ∧ b' < t))) :
    Calls Try.prog 9 #[.agg #[.int .i64 s, .slice p n c], .int .i64 e, .int .i64 f, .agg #[.int .i64 t, .slice q m d], .int .i64 a, .int .i64 b'] w fun e' w' => e' = .returned (.tuple #[.agg #[.int .i64 0, .slice none 0 0], .int .i64 2]) ∧ Below w.heap.size w w' := by
  have Q1 := hid hef
  have Q2 := hid hab
  clear hef hab
  have Hn := hid hn
  have Hr := hid hr
  have Hn2 := hid hn2
  have Hr2 := hid hr2
  have G1 := hid g1
  have G2 := hid g2
  clear hn hr hn2 hr2 g1 g2
  go_enter Try.func9, Try.ntmps9
  go_wp2_with fail
  refine (iIsGraph_any _ _ _ _ es _ (by omega) Hn.out (Hr.out.on (bfrom (bfrom (on_alloc _ _) (on_alloc _ _)) (on_alloc _ _)))).mono ?_
  rw [decide_eq_true G1.out]
  rintro e' w2 ⟨rfl, hb2⟩
  have HB2 := hid (bfrom (w := w) (bfrom (bfrom (on_alloc _ _) (on_alloc _ _)) (on_alloc _ _)) hb2)
  have HG2 := hid ((((GBox.new w w.heap.size rfl : GBox _ _ s p n c).on (on_alloc _ _)).on (on_alloc _ _)).on hb2)
  have HH2 := hid ((((GBox.new _ (w.heap.size + 1) (by simp) : GBox _ _ t q m d)).on (on_alloc _ _)).on hb2)
  have HK2 := hid ((GBox.new _ (w.heap.size + 1 + 1) (by simp) : GBox _ _ 0 none 0 0).on hb2)
  clear hb2
  have hx2 := HG2.out.box.1
  have hy2 := HG2.out.box.2
  have hl2 := HG2.out.lt
  have hu2 := HH2.out.box.1
  have hv2 := HH2.out.box.2
  have hw2 := HH2.out.lt
  have hkx2 := HK2.out.box.1
  have hky2 := HK2.out.box.2
  have hkl2 := HK2.out.lt
  have hfx2 := HK2.out.frozen 0
  have hfy2 := HK2.out.frozen 1
  go_wp2_with fail
  refine (iIsGraph_any _ _ _ _ fs _ (by omega) Hn2.out (Hr2.out.on HB2.out)).mono ?_
  rw [decide_eq_true G2.out]
  rintro e' w3 ⟨rfl, hb3⟩
  have HB3 := hid (bfrom HB2.out hb3)
  have HG3 := hid (HG2.out.on hb3)
  have HH3 := hid (HH2.out.on hb3)
  have HK3 := hid (HK2.out.on hb3)
  clear hb3
  clear hx2 hy2 hl2 hu2 hv2 hw2 hkx2 hky2 hkl2 hfx2 hfy2
  have hx3 := HG3.out.box.1
  have hy3 := HG3.out.box.2
  have hl3 := HG3.out.lt
  have hu3 := HH3.out.box.1
  have hv3 := HH3.out.box.2
  have hw3 := HH3.out.lt
  have hkx3 := HK3.out.box.1
  have hky3 := HK3.out.box.2
  have hkl3 := HK3.out.lt
  have hfx3 := HK3.out.frozen 0
  have hfy3 := HK3.out.frozen 1
  go_wp2_with fail
  obtain ⟨W3, hW3⟩ : ∃ W3, W3 = w3.alloc (.cells #[.int .i64 e, .int .i64 f] 2) := ⟨_, rfl⟩
  rw [← hW3]
  refine (iBelowD_yes (n : Int) e f w3.heap.size 2 W3 Q1.out (by rw [hW3]; exact reads_twoY _ _ _ _ _ rfl)).mono ?_
  rintro e' w4 ⟨rfl, rfl⟩
  have hb4 : Below w3.heap.size w3 w4 := by rw [hW3]; exact on_alloc _ _
  clear hW3
  have HB4 := hid (bfrom HB3.out hb4)
  have HG4 := hid (HG3.out.on hb4)
  have HH4 := hid (HH3.out.on hb4)
  have HK4 := hid (HK3.out.on hb4)
  clear hb4
  clear hx3 hy3 hl3 hu3 hv3 hw3 hkx3 hky3 hkl3 hfx3 hfy3
  have hx4 := HG4.out.box.1
  have hy4 := HG4.out.box.2
  have hl4 := HG4.out.lt
  have hu4 := HH4.out.box.1
  have hv4 := HH4.out.box.2
  have hw4 := HH4.out.lt
  have hkx4 := HK4.out.box.1
  have hky4 := HK4.out.box.2
  have hkl4 := HK4.out.lt
  have hfx4 := HK4.out.frozen 0
  have hfy4 := HK4.out.frozen 1
  go_wp2_with fail
  obtain ⟨W4, hW4⟩ : ∃ W4, W4 = w4.alloc (.cells #[.int .i64 a, .int .i64 b'] 2) := ⟨_, rfl⟩
  rw [← hW4]
  refine (iBelowD_no t a b' w4.heap.size 2 W4 Q2.out (by rw [hW4]; exact reads_twoY _ _ _ _ _ rfl)).mono ?_
  rintro e' w5 ⟨rfl, rfl⟩
  have hb5 : Below w4.heap.size w4 w5 := by rw [hW4]; exact on_alloc _ _
  clear hW4
  have HB5 := hid (bfrom HB4.out hb5)
  have HG5 := hid (HG4.out.on hb5)
  have HH5 := hid (HH4.out.on hb5)
  have HK5 := hid (HK4.out.on hb5)
  clear hb5
  clear hx4 hy4 hl4 hu4 hv4 hw4 hkx4 hky4 hkl4 hfx4 hfy4
  have hx5 := HG5.out.box.1
  have hy5 := HG5.out.box.2
  have hl5 := HG5.out.lt
  have hu5 := HH5.out.box.1
  have hv5 := HH5.out.box.2
  have hw5 := HH5.out.lt
  have hkx5 := HK5.out.box.1
  have hky5 := HK5.out.box.2
  have hkl5 := HK5.out.lt
  have hfx5 := HK5.out.frozen 0
  have hfy5 := HK5.out.frozen 1
  go_wp2_with fail
  refine bodyPost_ret (v := .tuple #[.agg #[.int .i64 0, .slice none 0 0], .int .i64 2]) (by simp [results, Try.results9, go_sem, hkx5, hky5]) rfl ⟨rfl, ?_⟩
  have h := HB5.out
  go_grown

set_option maxRecDepth 100000 in
set_option maxHeartbeats 8000000 in
theorem iDp_near (b off n c b2 o2 m d E F : Nat) (s t a b' : Int) (es fs : List (Int × Int)) (w : World) (hn : es.length = n) (hr0 : ReadsE w b off es) (hn2 : fs.length = m) (hr20 : ReadsE w b2 o2 fs) (g1 : IsG s es) (g2 : IsG t fs) (hE : E < n) (hF : F < n) (ha : 0 ≤ a ∧ a < t) (hb : 0 ≤ b' ∧ b' < t) (hnr : nearB es E F = true) :
    Calls Try.prog 9 #[.agg #[.int .i64 s, .slice (some ⟨b, off, none⟩) n c], .int .i64 E, .int .i64 F, .agg #[.int .i64 t, .slice (some ⟨b2, o2, none⟩) m d], .int .i64 a, .int .i64 b'] w fun e' w' => e' = .returned (.tuple #[.agg #[.int .i64 0, .slice none 0 0], .int .i64 5]) ∧ Below w.heap.size w w' := by
  have hm : n ≤ 1048576 := by have := isG_len g1; omega
  have hm2 : m ≤ 1048576 := by have := isG_len g2; omega
  have hm30 : m ≤ 30 := by have := isG_len g2; omega
  have hn30 : n ≤ 30 := by have := isG_len g1; omega
  have h6 : 1 ≤ m := by have := g2.1.1; unfold okSize at this; omega
  have hr : SeesE w (some ⟨b, off, none⟩) es := .inr ⟨b, off, rfl, hr0⟩
  have hr2 : SeesE w (some ⟨b2, o2, none⟩) fs := .inr ⟨b2, o2, rfl, hr20⟩
  have HR0 := hid hr0
  have HR20 := hid hr20
  have HEn := hid hE
  have HFn := hid hF
  have Ha := hid ha
  have Hb := hid hb
  have hEn : (E : Int) < (n : Int) := by omega
  have hFn : (F : Int) < (n : Int) := by omega
  have Q1 := hid (show (0 ≤ (E : Int) ∧ (E : Int) < (n : Int)) ∧ (0 ≤ (F : Int) ∧ (F : Int) < (n : Int)) by omega)
  have Q2 := hid (And.intro ha hb)
  have HWf := hid (show ∀ i, i < fs.length → (Lit.int .i64 (eA fs i)).wf = true ∧ (Lit.int .i64 (eB fs i)).wf = true from fun i hi => by have := isG_pos g2 hi; have h := g2.1.1; unfold okSize at h; exact ⟨wf_small (by omega), wf_small (by omega)⟩)
  have HWx := hid (show (Lit.int .i64 (min a b')).wf = true from wf_small (by have h := g2.1.1; unfold okSize at h; omega))
  have HWy := hid (show (Lit.int .i64 (max a b')).wf = true from wf_small (by have h := g2.1.1; unfold okSize at h; omega))
  have HNr := hid hnr
  clear hnr
  have Hn := hid hn
  have Hr := hid hr
  have Hn2 := hid hn2
  have Hr2 := hid hr2
  have G1 := hid g1
  have G2 := hid g2
  clear hn hr hn2 hr2 g1 g2 hr0 hr20 ha hb
  go_enter Try.func9, Try.ntmps9
  go_wp2_with fail
  refine (iIsGraph_any _ _ _ _ es _ (by omega) Hn.out (Hr.out.on (bfrom (bfrom (on_alloc _ _) (on_alloc _ _)) (on_alloc _ _)))).mono ?_
  rw [decide_eq_true G1.out]
  rintro e' w2 ⟨rfl, hb2⟩
  have HB2 := hid (bfrom (w := w) (bfrom (bfrom (on_alloc _ _) (on_alloc _ _)) (on_alloc _ _)) hb2)
  have HG2 := hid ((((GBox.new w w.heap.size rfl : GBox _ _ s (some ⟨b, off, none⟩) n c).on (on_alloc _ _)).on (on_alloc _ _)).on hb2)
  have HH2 := hid ((((GBox.new _ (w.heap.size + 1) (by simp) : GBox _ _ t (some ⟨b2, o2, none⟩) m d)).on (on_alloc _ _)).on hb2)
  have HK2 := hid ((GBox.new _ (w.heap.size + 1 + 1) (by simp) : GBox _ _ 0 none 0 0).on hb2)
  clear hb2
  have hx2 := HG2.out.box.1
  have hy2 := HG2.out.box.2
  have hl2 := HG2.out.lt
  have hu2 := HH2.out.box.1
  have hv2 := HH2.out.box.2
  have hw2 := HH2.out.lt
  have hkx2 := HK2.out.box.1
  have hky2 := HK2.out.box.2
  have hkl2 := HK2.out.lt
  have hfx2 := HK2.out.frozen 0
  have hfy2 := HK2.out.frozen 1
  go_wp2_with fail
  refine (iIsGraph_any _ _ _ _ fs _ (by omega) Hn2.out (Hr2.out.on HB2.out)).mono ?_
  rw [decide_eq_true G2.out]
  rintro e' w3 ⟨rfl, hb3⟩
  have HB3 := hid (bfrom HB2.out hb3)
  have HG3 := hid (HG2.out.on hb3)
  have HH3 := hid (HH2.out.on hb3)
  have HK3 := hid (HK2.out.on hb3)
  clear hb3
  clear hx2 hy2 hl2 hu2 hv2 hw2 hkx2 hky2 hkl2 hfx2 hfy2
  have hx3 := HG3.out.box.1
  have hy3 := HG3.out.box.2
  have hl3 := HG3.out.lt
  have hu3 := HH3.out.box.1
  have hv3 := HH3.out.box.2
  have hw3 := HH3.out.lt
  have hkx3 := HK3.out.box.1
  have hky3 := HK3.out.box.2
  have hkl3 := HK3.out.lt
  have hfx3 := HK3.out.frozen 0
  have hfy3 := HK3.out.frozen 1
  go_wp2_with fail
  obtain ⟨W3, hW3⟩ : ∃ W3, W3 = w3.alloc (.cells #[.int .i64 (E : Int), .int .i64 (F : Int)] 2) := ⟨_, rfl⟩
  rw [← hW3]
  refine (iBelowD_yes (n : Int) (E : Int) (F : Int) w3.heap.size 2 W3 Q1.out (by rw [hW3]; exact reads_twoY _ _ _ _ _ rfl)).mono ?_
  rintro e' w4 ⟨rfl, rfl⟩
  have hb4 : Below w3.heap.size w3 w4 := by rw [hW3]; exact on_alloc _ _
  clear hW3
  have HB4 := hid (bfrom HB3.out hb4)
  have HG4 := hid (HG3.out.on hb4)
  have HH4 := hid (HH3.out.on hb4)
  have HK4 := hid (HK3.out.on hb4)
  clear hb4
  clear hx3 hy3 hl3 hu3 hv3 hw3 hkx3 hky3 hkl3 hfx3 hfy3
  have hx4 := HG4.out.box.1
  have hy4 := HG4.out.box.2
  have hl4 := HG4.out.lt
  have hu4 := HH4.out.box.1
  have hv4 := HH4.out.box.2
  have hw4 := HH4.out.lt
  have hkx4 := HK4.out.box.1
  have hky4 := HK4.out.box.2
  have hkl4 := HK4.out.lt
  have hfx4 := HK4.out.frozen 0
  have hfy4 := HK4.out.frozen 1
  go_wp2_with fail
  obtain ⟨W4, hW4⟩ : ∃ W4, W4 = w4.alloc (.cells #[.int .i64 a, .int .i64 b'] 2) := ⟨_, rfl⟩
  rw [← hW4]
  refine (iBelowD_yes t a b' w4.heap.size 2 W4 Q2.out (by rw [hW4]; exact reads_twoY _ _ _ _ _ rfl)).mono ?_
  rintro e' w5 ⟨rfl, rfl⟩
  have hb5 : Below w4.heap.size w4 w5 := by rw [hW4]; exact on_alloc _ _
  clear hW4
  have HB5 := hid (bfrom HB4.out hb5)
  have HG5 := hid (HG4.out.on hb5)
  have HH5 := hid (HH4.out.on hb5)
  have HK5 := hid (HK4.out.on hb5)
  clear hb5
  clear hx4 hy4 hl4 hu4 hv4 hw4 hkx4 hky4 hkl4 hfx4 hfy4
  have hx5 := HG5.out.box.1
  have hy5 := HG5.out.box.2
  have hl5 := HG5.out.lt
  have hu5 := HH5.out.box.1
  have hv5 := HH5.out.box.2
  have hw5 := HH5.out.lt
  have hkx5 := HK5.out.box.1
  have hky5 := HK5.out.box.2
  have hkl5 := HK5.out.lt
  have hfx5 := HK5.out.frozen 0
  have hfy5 := HK5.out.frozen 1
  have HSof := hid (fun (w' : World) (hb : Below w5.heap.size w5 w') => (show w'.cell? ⟨w.heap.size, 1, none⟩ = some (.slice (some ⟨b, off, none⟩) n c) ∧ w'.cell? ⟨b, off + E * 2, none⟩ = some (.int .i64 (eA es E)) ∧ w'.cell? ⟨b, off + E * 2 + 1, none⟩ = some (.int .i64 (eB es E)) ∧ w'.cell? ⟨b, off + F * 2, none⟩ = some (.int .i64 (eA es F)) ∧ w'.cell? ⟨b, off + F * 2 + 1, none⟩ = some (.int .i64 (eB es F)) ∧ w'.cell? ⟨w.heap.size + 1, 0, none⟩ = some (.int .i64 t) ∧ w'.cell? ⟨w.heap.size + 1, 1, none⟩ = some (.slice (some ⟨b2, o2, none⟩) m d) from ⟨(HG5.out.on hb).box.2, (HR0.out.on (bfrom HB5.out hb) E (by have := Hn.out; omega)).1, (HR0.out.on (bfrom HB5.out hb) E (by have := Hn.out; omega)).2, (HR0.out.on (bfrom HB5.out hb) F (by have := Hn.out; omega)).1, (HR0.out.on (bfrom HB5.out hb) F (by have := Hn.out; omega)).2, (HH5.out.on hb).box.1, (HH5.out.on hb).box.2⟩))
  go_upto_region 5 with fail
  go_cut [60] (fun u wx => u = .bool true ∧ Hid (Below w5.heap.size w5 wx))
  case first =>
    have HNr' := hid (show meetB (eA es E) (eB es E) (eA es F) (eB es F) = true from HNr.out)
    refine wp_region_held_drew (S := fun w' => w'.cell? ⟨w.heap.size, 1, none⟩ = some (.slice (some ⟨b, off, none⟩) n c) ∧ w'.cell? ⟨b, off + E * 2, none⟩ = some (.int .i64 (eA es E)) ∧ w'.cell? ⟨b, off + E * 2 + 1, none⟩ = some (.int .i64 (eB es E)) ∧ w'.cell? ⟨b, off + F * 2, none⟩ = some (.int .i64 (eA es F)) ∧ w'.cell? ⟨b, off + F * 2 + 1, none⟩ = some (.int .i64 (eB es F)) ∧ w'.cell? ⟨w.heap.size + 1, 0, none⟩ = some (.int .i64 t) ∧ w'.cell? ⟨w.heap.size + 1, 1, none⟩ = some (.slice (some ⟨b2, o2, none⟩) m d)) (by kernel_rfl) (HSof.out _ (Below.refl _ _).drew) (fun hHeld => ?_)
    refine wpAnyH_take (i := 0) (v := .pointer (some ⟨w.heap.size, 1, none⟩)) rfl (by kernel_rfl) (by kernel_rfl) (by kernel_rfl) (fun _ _ _ h => h) (Or.inl ⟨by rfl, fun w' hSw => ?_⟩) (by assumption) ?_
    · have s1 := hSw.1
      clear s1
      go_simp
    simp only [Act.put, List.getElem_toArray, List.getElem_cons_zero, List.setIfInBounds_toArray, List.set_cons_zero, List.set_cons_succ]
    refine wpAnyH_take (i := 1) (v := .slice (some ⟨b, off, none⟩) n c) rfl (by kernel_rfl) (by kernel_rfl) (by kernel_rfl) (fun _ _ _ h => h) (Or.inl ⟨by rfl, fun w' hSw => ?_⟩) (by assumption) ?_
    · have s1 := hSw.1
      have s2 := hSw.2.1
      go_simp
    simp only [Act.put, List.getElem_toArray, List.getElem_cons_zero, List.getElem_cons_succ, List.setIfInBounds_toArray, List.set_cons_zero, List.set_cons_succ]
    refine wpAnyH_take (i := 2) (v := .int .i64 (E : Int)) rfl (by kernel_rfl) (by kernel_rfl) (by kernel_rfl) (fun _ _ _ h => h) (Or.inl ⟨by rfl, fun w' hSw => ?_⟩) (by assumption) ?_
    · have s1 := hSw.1
      clear s1
      go_simp
    simp only [Act.put, List.getElem_toArray, List.getElem_cons_zero, List.getElem_cons_succ, List.setIfInBounds_toArray, List.set_cons_zero, List.set_cons_succ]
    refine wpAnyH_take (i := 3) (v := .pointer (some ⟨b, off + E * 2, none⟩)) rfl (by kernel_rfl) (by kernel_rfl) (by kernel_rfl) (fun _ _ _ h => h) (Or.inl ⟨by rfl, fun w' hSw => ?_⟩) (by assumption) ?_
    · have s1 := hSw.1
      clear s1
      go_simp
    simp only [Act.put, List.getElem_toArray, List.getElem_cons_zero, List.getElem_cons_succ, List.setIfInBounds_toArray, List.set_cons_zero, List.set_cons_succ]
    refine wpAnyH_take (i := 4) (v := .agg #[.int .i64 (eA es E), .int .i64 (eB es E)]) rfl (by kernel_rfl) (by kernel_rfl) (by kernel_rfl) (fun _ _ _ h => h) (Or.inl ⟨by rfl, fun w' hSw => ?_⟩) (by assumption) ?_
    · have s1 := hSw.1
      have s2 := hSw.2.1
      have s3 := hSw.2.2.1
      go_simp
    simp only [Act.put, List.getElem_toArray, List.getElem_cons_zero, List.getElem_cons_succ, List.setIfInBounds_toArray, List.set_cons_zero, List.set_cons_succ]
    refine wpAnyH_take (i := 5) (v := .pointer (some ⟨w.heap.size, 1, none⟩)) rfl (by kernel_rfl) (by kernel_rfl) (by kernel_rfl) (fun _ _ _ h => h) (Or.inl ⟨by rfl, fun w' hSw => ?_⟩) (by assumption) ?_
    · have s1 := hSw.1
      clear s1
      go_simp
    simp only [Act.put, List.getElem_toArray, List.getElem_cons_zero, List.getElem_cons_succ, List.setIfInBounds_toArray, List.set_cons_zero, List.set_cons_succ]
    refine wpAnyH_take (i := 6) (v := .slice (some ⟨b, off, none⟩) n c) rfl (by kernel_rfl) (by kernel_rfl) (by kernel_rfl) (fun _ _ _ h => h) (Or.inl ⟨by rfl, fun w' hSw => ?_⟩) (by assumption) ?_
    · have s1 := hSw.1
      have s2 := hSw.2.1
      go_simp
    simp only [Act.put, List.getElem_toArray, List.getElem_cons_zero, List.getElem_cons_succ, List.setIfInBounds_toArray, List.set_cons_zero, List.set_cons_succ]
    refine wpAnyH_take (i := 7) (v := .int .i64 (F : Int)) rfl (by kernel_rfl) (by kernel_rfl) (by kernel_rfl) (fun _ _ _ h => h) (Or.inl ⟨by rfl, fun w' hSw => ?_⟩) (by assumption) ?_
    · have s1 := hSw.1
      clear s1
      go_simp
    simp only [Act.put, List.getElem_toArray, List.getElem_cons_zero, List.getElem_cons_succ, List.setIfInBounds_toArray, List.set_cons_zero, List.set_cons_succ]
    refine wpAnyH_take (i := 8) (v := .pointer (some ⟨b, off + F * 2, none⟩)) rfl (by kernel_rfl) (by kernel_rfl) (by kernel_rfl) (fun _ _ _ h => h) (Or.inl ⟨by rfl, fun w' hSw => ?_⟩) (by assumption) ?_
    · have s1 := hSw.1
      clear s1
      go_simp
    simp only [Act.put, List.getElem_toArray, List.getElem_cons_zero, List.getElem_cons_succ, List.setIfInBounds_toArray, List.set_cons_zero, List.set_cons_succ]
    refine wpAnyH_take (i := 9) (v := .agg #[.int .i64 (eA es F), .int .i64 (eB es F)]) rfl (by kernel_rfl) (by kernel_rfl) (by kernel_rfl) (fun _ _ _ h => h) (Or.inl ⟨by rfl, fun w' hSw => ?_⟩) (by assumption) ?_
    · have s1 := hSw.1
      have s4 := hSw.2.2.2.1
      have s5 := hSw.2.2.2.2.1
      go_simp
    simp only [Act.put, List.getElem_toArray, List.getElem_cons_zero, List.getElem_cons_succ, List.setIfInBounds_toArray, List.set_cons_zero, List.set_cons_succ]
    refine wpAnyH_ready (rs := [10]) (by kernel_rfl) (by simp) ?_
    refine AllReadyH.cons rfl (fun K hK => ?_) AllReadyH.nil
    go_simp
    refine (iHave_any _ _ _ _ _).mono ?_
    rw [HNr'.out]
    rintro e' wa ⟨rfl, hba⟩
    have HBa := hid (bfrom (w := w5) (Below.refl _ _).drew hba)
    clear hba
    refine hK.out _ _ (HSof.out _ HBa.out) (fun _ => ?_)
    clear hK K
    refine wpAnyH_take (i := 11) (v := .bool true) rfl (by kernel_rfl) (by kernel_rfl) (by kernel_rfl) (fun _ _ _ h => h) (Or.inl ⟨by rfl, fun w' hSw => ?_⟩) (by assumption) ?_
    · have s1 := hSw.1
      clear s1
      go_simp
    simp only [Act.put, List.getElem_toArray, List.getElem_cons_zero, List.getElem_cons_succ, List.setIfInBounds_toArray, List.set_cons_zero, List.set_cons_succ]
    refine wpAnyH_take (i := 12) (v := undef) rfl (by kernel_rfl) (by kernel_rfl) (by kernel_rfl) (fun _ _ _ h => h) (Or.inr ⟨by rfl, rfl⟩) (by assumption) ?_
    simp only [Act.put, List.getElem_toArray, List.getElem_cons_zero, List.getElem_cons_succ, List.setIfInBounds_toArray, List.set_cons_zero, List.set_cons_succ]
    refine wpAnyH_take (i := 13) (v := undef) rfl (by kernel_rfl) (by kernel_rfl) (by kernel_rfl) (fun _ _ _ h => h) (Or.inr ⟨by rfl, rfl⟩) (by assumption) ?_
    simp only [Act.put, List.getElem_toArray, List.getElem_cons_zero, List.getElem_cons_succ, List.setIfInBounds_toArray, List.set_cons_zero, List.set_cons_succ]
    refine wpAnyH_take (i := 14) (v := undef) rfl (by kernel_rfl) (by kernel_rfl) (by kernel_rfl) (fun _ _ _ h => h) (Or.inr ⟨by rfl, rfl⟩) (by assumption) ?_
    simp only [Act.put, List.getElem_toArray, List.getElem_cons_zero, List.getElem_cons_succ, List.setIfInBounds_toArray, List.set_cons_zero, List.set_cons_succ]
    refine wpAnyH_take (i := 15) (v := undef) rfl (by kernel_rfl) (by kernel_rfl) (by kernel_rfl) (fun _ _ _ h => h) (Or.inr ⟨by rfl, rfl⟩) (by assumption) ?_
    simp only [Act.put, List.getElem_toArray, List.getElem_cons_zero, List.getElem_cons_succ, List.setIfInBounds_toArray, List.set_cons_zero, List.set_cons_succ]
    refine wpAnyH_take (i := 16) (v := undef) rfl (by kernel_rfl) (by kernel_rfl) (by kernel_rfl) (fun _ _ _ h => h) (Or.inr ⟨by rfl, rfl⟩) (by assumption) ?_
    simp only [Act.put, List.getElem_toArray, List.getElem_cons_zero, List.getElem_cons_succ, List.setIfInBounds_toArray, List.set_cons_zero, List.set_cons_succ]
    refine wpAnyH_take (i := 17) (v := undef) rfl (by kernel_rfl) (by kernel_rfl) (by kernel_rfl) (fun _ _ _ h => h) (Or.inr ⟨by rfl, rfl⟩) (by assumption) ?_
    simp only [Act.put, List.getElem_toArray, List.getElem_cons_zero, List.getElem_cons_succ, List.setIfInBounds_toArray, List.set_cons_zero, List.set_cons_succ]
    refine wpAnyH_take (i := 18) (v := undef) rfl (by kernel_rfl) (by kernel_rfl) (by kernel_rfl) (fun _ _ _ h => h) (Or.inr ⟨by rfl, rfl⟩) (by assumption) ?_
    simp only [Act.put, List.getElem_toArray, List.getElem_cons_zero, List.getElem_cons_succ, List.setIfInBounds_toArray, List.set_cons_zero, List.set_cons_succ]
    refine wpAnyH_take (i := 19) (v := .bool true) rfl (by kernel_rfl) (by kernel_rfl) (by kernel_rfl) (fun _ _ _ h => h) (Or.inl ⟨by rfl, fun w' hSw => ?_⟩) (by assumption) ?_
    · have s1 := hSw.1
      clear s1
      go_simp
    simp only [Act.put, List.getElem_toArray, List.getElem_cons_zero, List.getElem_cons_succ, List.setIfInBounds_toArray, List.set_cons_zero, List.set_cons_succ]
    refine wpAnyH_done (by kernel_rfl) ?_ _
    go_wp2_with fail
    go_meet
    exact ⟨rfl, HBa⟩
  case rest =>
  obtain ⟨rfl, hcb⟩ := hcut
  obtain ⟨w6, rfl⟩ : ∃ w6, w6 = wc := ⟨_, rfl⟩
  have hb6 := hcb.out
  clear hcb HSof
  have HB6 := hid (bfrom HB5.out hb6)
  have HG6 := hid (HG5.out.on hb6)
  have HH6 := hid (HH5.out.on hb6)
  have HK6 := hid (HK5.out.on hb6)
  clear hb6
  clear hx5 hy5 hl5 hu5 hv5 hw5 hkx5 hky5 hkl5 hfx5 hfy5
  have hx6 := HG6.out.box.1
  have hy6 := HG6.out.box.2
  have hl6 := HG6.out.lt
  have hu6 := HH6.out.box.1
  have hv6 := HH6.out.box.2
  have hw6 := HH6.out.lt
  have hkx6 := HK6.out.box.1
  have hky6 := HK6.out.box.2
  have hkl6 := HK6.out.lt
  have hfx6 := HK6.out.frozen 0
  have hfy6 := HK6.out.frozen 1
  go_wp2_with fail
  refine bodyPost_ret (v := .tuple #[.agg #[.int .i64 0, .slice none 0 0], .int .i64 5]) (by simp [results, Try.results9, go_sem, hkx6, hky6]) rfl ⟨rfl, ?_⟩
  have h := HB6.out
  go_grown

set_option maxRecDepth 100000 in
set_option maxHeartbeats 8000000 in
theorem iDp_jc (b off n c b2 o2 m d E F : Nat) (s t a b' : Int) (es fs : List (Int × Int)) (w : World) (hn : es.length = n) (hr0 : ReadsE w b off es) (hn2 : fs.length = m) (hr20 : ReadsE w b2 o2 fs) (g1 : IsG s es) (g2 : IsG t fs) (hE : E < n) (hF : F < n) (ha : 0 ≤ a ∧ a < t) (hb : 0 ≤ b' ∧ b' < t) (hnr : nearB es E F = false) (hj : jcU fs (min a b') (max a b') m ≠ 1) :
    Calls Try.prog 9 #[.agg #[.int .i64 s, .slice (some ⟨b, off, none⟩) n c], .int .i64 E, .int .i64 F, .agg #[.int .i64 t, .slice (some ⟨b2, o2, none⟩) m d], .int .i64 a, .int .i64 b'] w fun e' w' => e' = .returned (.tuple #[.agg #[.int .i64 0, .slice none 0 0], .int .i64 5]) ∧ Below w.heap.size w w' := by
  have hm : n ≤ 1048576 := by have := isG_len g1; omega
  have hm2 : m ≤ 1048576 := by have := isG_len g2; omega
  have hm30 : m ≤ 30 := by have := isG_len g2; omega
  have hn30 : n ≤ 30 := by have := isG_len g1; omega
  have h6 : 1 ≤ m := by have := g2.1.1; unfold okSize at this; omega
  have hr : SeesE w (some ⟨b, off, none⟩) es := .inr ⟨b, off, rfl, hr0⟩
  have hr2 : SeesE w (some ⟨b2, o2, none⟩) fs := .inr ⟨b2, o2, rfl, hr20⟩
  have HR0 := hid hr0
  have HR20 := hid hr20
  have HEn := hid hE
  have HFn := hid hF
  have Ha := hid ha
  have Hb := hid hb
  have hEn : (E : Int) < (n : Int) := by omega
  have hFn : (F : Int) < (n : Int) := by omega
  have Q1 := hid (show (0 ≤ (E : Int) ∧ (E : Int) < (n : Int)) ∧ (0 ≤ (F : Int) ∧ (F : Int) < (n : Int)) by omega)
  have Q2 := hid (And.intro ha hb)
  have HWf := hid (show ∀ i, i < fs.length → (Lit.int .i64 (eA fs i)).wf = true ∧ (Lit.int .i64 (eB fs i)).wf = true from fun i hi => by have := isG_pos g2 hi; have h := g2.1.1; unfold okSize at h; exact ⟨wf_small (by omega), wf_small (by omega)⟩)
  have HWx := hid (show (Lit.int .i64 (min a b')).wf = true from wf_small (by have h := g2.1.1; unfold okSize at h; omega))
  have HWy := hid (show (Lit.int .i64 (max a b')).wf = true from wf_small (by have h := g2.1.1; unfold okSize at h; omega))
  obtain ⟨C, hC⟩ : ∃ C : Nat, jcU fs (min a b') (max a b') m = C := ⟨_, rfl⟩
  have HJn := hid (show jnN fs m (min a b') (max a b') = (C : Int) by unfold jnN; rw [hC])
  have HNr := hid hnr
  rw [hC] at hj
  have t2 : ((C : Int) != 1) = true := by simp; omega
  clear hnr hC hj
  have Hn := hid hn
  have Hr := hid hr
  have Hn2 := hid hn2
  have Hr2 := hid hr2
  have G1 := hid g1
  have G2 := hid g2
  clear hn hr hn2 hr2 g1 g2 hr0 hr20 ha hb
  go_enter Try.func9, Try.ntmps9
  go_wp2_with fail
  refine (iIsGraph_any _ _ _ _ es _ (by omega) Hn.out (Hr.out.on (bfrom (bfrom (on_alloc _ _) (on_alloc _ _)) (on_alloc _ _)))).mono ?_
  rw [decide_eq_true G1.out]
  rintro e' w2 ⟨rfl, hb2⟩
  have HB2 := hid (bfrom (w := w) (bfrom (bfrom (on_alloc _ _) (on_alloc _ _)) (on_alloc _ _)) hb2)
  have HG2 := hid ((((GBox.new w w.heap.size rfl : GBox _ _ s (some ⟨b, off, none⟩) n c).on (on_alloc _ _)).on (on_alloc _ _)).on hb2)
  have HH2 := hid ((((GBox.new _ (w.heap.size + 1) (by simp) : GBox _ _ t (some ⟨b2, o2, none⟩) m d)).on (on_alloc _ _)).on hb2)
  have HK2 := hid ((GBox.new _ (w.heap.size + 1 + 1) (by simp) : GBox _ _ 0 none 0 0).on hb2)
  clear hb2
  have hx2 := HG2.out.box.1
  have hy2 := HG2.out.box.2
  have hl2 := HG2.out.lt
  have hu2 := HH2.out.box.1
  have hv2 := HH2.out.box.2
  have hw2 := HH2.out.lt
  have hkx2 := HK2.out.box.1
  have hky2 := HK2.out.box.2
  have hkl2 := HK2.out.lt
  have hfx2 := HK2.out.frozen 0
  have hfy2 := HK2.out.frozen 1
  go_wp2_with fail
  refine (iIsGraph_any _ _ _ _ fs _ (by omega) Hn2.out (Hr2.out.on HB2.out)).mono ?_
  rw [decide_eq_true G2.out]
  rintro e' w3 ⟨rfl, hb3⟩
  have HB3 := hid (bfrom HB2.out hb3)
  have HG3 := hid (HG2.out.on hb3)
  have HH3 := hid (HH2.out.on hb3)
  have HK3 := hid (HK2.out.on hb3)
  clear hb3
  clear hx2 hy2 hl2 hu2 hv2 hw2 hkx2 hky2 hkl2 hfx2 hfy2
  have hx3 := HG3.out.box.1
  have hy3 := HG3.out.box.2
  have hl3 := HG3.out.lt
  have hu3 := HH3.out.box.1
  have hv3 := HH3.out.box.2
  have hw3 := HH3.out.lt
  have hkx3 := HK3.out.box.1
  have hky3 := HK3.out.box.2
  have hkl3 := HK3.out.lt
  have hfx3 := HK3.out.frozen 0
  have hfy3 := HK3.out.frozen 1
  go_wp2_with fail
  obtain ⟨W3, hW3⟩ : ∃ W3, W3 = w3.alloc (.cells #[.int .i64 (E : Int), .int .i64 (F : Int)] 2) := ⟨_, rfl⟩
  rw [← hW3]
  refine (iBelowD_yes (n : Int) (E : Int) (F : Int) w3.heap.size 2 W3 Q1.out (by rw [hW3]; exact reads_twoY _ _ _ _ _ rfl)).mono ?_
  rintro e' w4 ⟨rfl, rfl⟩
  have hb4 : Below w3.heap.size w3 w4 := by rw [hW3]; exact on_alloc _ _
  clear hW3
  have HB4 := hid (bfrom HB3.out hb4)
  have HG4 := hid (HG3.out.on hb4)
  have HH4 := hid (HH3.out.on hb4)
  have HK4 := hid (HK3.out.on hb4)
  clear hb4
  clear hx3 hy3 hl3 hu3 hv3 hw3 hkx3 hky3 hkl3 hfx3 hfy3
  have hx4 := HG4.out.box.1
  have hy4 := HG4.out.box.2
  have hl4 := HG4.out.lt
  have hu4 := HH4.out.box.1
  have hv4 := HH4.out.box.2
  have hw4 := HH4.out.lt
  have hkx4 := HK4.out.box.1
  have hky4 := HK4.out.box.2
  have hkl4 := HK4.out.lt
  have hfx4 := HK4.out.frozen 0
  have hfy4 := HK4.out.frozen 1
  go_wp2_with fail
  obtain ⟨W4, hW4⟩ : ∃ W4, W4 = w4.alloc (.cells #[.int .i64 a, .int .i64 b'] 2) := ⟨_, rfl⟩
  rw [← hW4]
  refine (iBelowD_yes t a b' w4.heap.size 2 W4 Q2.out (by rw [hW4]; exact reads_twoY _ _ _ _ _ rfl)).mono ?_
  rintro e' w5 ⟨rfl, rfl⟩
  have hb5 : Below w4.heap.size w4 w5 := by rw [hW4]; exact on_alloc _ _
  clear hW4
  have HB5 := hid (bfrom HB4.out hb5)
  have HG5 := hid (HG4.out.on hb5)
  have HH5 := hid (HH4.out.on hb5)
  have HK5 := hid (HK4.out.on hb5)
  clear hb5
  clear hx4 hy4 hl4 hu4 hv4 hw4 hkx4 hky4 hkl4 hfx4 hfy4
  have hx5 := HG5.out.box.1
  have hy5 := HG5.out.box.2
  have hl5 := HG5.out.lt
  have hu5 := HH5.out.box.1
  have hv5 := HH5.out.box.2
  have hw5 := HH5.out.lt
  have hkx5 := HK5.out.box.1
  have hky5 := HK5.out.box.2
  have hkl5 := HK5.out.lt
  have hfx5 := HK5.out.frozen 0
  have hfy5 := HK5.out.frozen 1
  have HSof := hid (fun (w' : World) (hb : Below w5.heap.size w5 w') => (show w'.cell? ⟨w.heap.size, 1, none⟩ = some (.slice (some ⟨b, off, none⟩) n c) ∧ w'.cell? ⟨b, off + E * 2, none⟩ = some (.int .i64 (eA es E)) ∧ w'.cell? ⟨b, off + E * 2 + 1, none⟩ = some (.int .i64 (eB es E)) ∧ w'.cell? ⟨b, off + F * 2, none⟩ = some (.int .i64 (eA es F)) ∧ w'.cell? ⟨b, off + F * 2 + 1, none⟩ = some (.int .i64 (eB es F)) ∧ w'.cell? ⟨w.heap.size + 1, 0, none⟩ = some (.int .i64 t) ∧ w'.cell? ⟨w.heap.size + 1, 1, none⟩ = some (.slice (some ⟨b2, o2, none⟩) m d) from ⟨(HG5.out.on hb).box.2, (HR0.out.on (bfrom HB5.out hb) E (by have := Hn.out; omega)).1, (HR0.out.on (bfrom HB5.out hb) E (by have := Hn.out; omega)).2, (HR0.out.on (bfrom HB5.out hb) F (by have := Hn.out; omega)).1, (HR0.out.on (bfrom HB5.out hb) F (by have := Hn.out; omega)).2, (HH5.out.on hb).box.1, (HH5.out.on hb).box.2⟩))
  go_upto_region 5 with fail
  go_cut [60] (fun u wx => u = .bool true ∧ Hid (Below w5.heap.size w5 wx))
  case first =>
    have HNr' := hid (show meetB (eA es E) (eB es E) (eA es F) (eB es F) = false from HNr.out)
    refine wp_region_held_drew (S := fun w' => w'.cell? ⟨w.heap.size, 1, none⟩ = some (.slice (some ⟨b, off, none⟩) n c) ∧ w'.cell? ⟨b, off + E * 2, none⟩ = some (.int .i64 (eA es E)) ∧ w'.cell? ⟨b, off + E * 2 + 1, none⟩ = some (.int .i64 (eB es E)) ∧ w'.cell? ⟨b, off + F * 2, none⟩ = some (.int .i64 (eA es F)) ∧ w'.cell? ⟨b, off + F * 2 + 1, none⟩ = some (.int .i64 (eB es F)) ∧ w'.cell? ⟨w.heap.size + 1, 0, none⟩ = some (.int .i64 t) ∧ w'.cell? ⟨w.heap.size + 1, 1, none⟩ = some (.slice (some ⟨b2, o2, none⟩) m d)) (by kernel_rfl) (HSof.out _ (Below.refl _ _).drew) (fun hHeld => ?_)
    refine wpAnyH_take (i := 0) (v := .pointer (some ⟨w.heap.size, 1, none⟩)) rfl (by kernel_rfl) (by kernel_rfl) (by kernel_rfl) (fun _ _ _ h => h) (Or.inl ⟨by rfl, fun w' hSw => ?_⟩) (by assumption) ?_
    · have s1 := hSw.1
      clear s1
      go_simp
    simp only [Act.put, List.getElem_toArray, List.getElem_cons_zero, List.setIfInBounds_toArray, List.set_cons_zero, List.set_cons_succ]
    refine wpAnyH_take (i := 1) (v := .slice (some ⟨b, off, none⟩) n c) rfl (by kernel_rfl) (by kernel_rfl) (by kernel_rfl) (fun _ _ _ h => h) (Or.inl ⟨by rfl, fun w' hSw => ?_⟩) (by assumption) ?_
    · have s1 := hSw.1
      have s2 := hSw.2.1
      go_simp
    simp only [Act.put, List.getElem_toArray, List.getElem_cons_zero, List.getElem_cons_succ, List.setIfInBounds_toArray, List.set_cons_zero, List.set_cons_succ]
    refine wpAnyH_take (i := 2) (v := .int .i64 (E : Int)) rfl (by kernel_rfl) (by kernel_rfl) (by kernel_rfl) (fun _ _ _ h => h) (Or.inl ⟨by rfl, fun w' hSw => ?_⟩) (by assumption) ?_
    · have s1 := hSw.1
      clear s1
      go_simp
    simp only [Act.put, List.getElem_toArray, List.getElem_cons_zero, List.getElem_cons_succ, List.setIfInBounds_toArray, List.set_cons_zero, List.set_cons_succ]
    refine wpAnyH_take (i := 3) (v := .pointer (some ⟨b, off + E * 2, none⟩)) rfl (by kernel_rfl) (by kernel_rfl) (by kernel_rfl) (fun _ _ _ h => h) (Or.inl ⟨by rfl, fun w' hSw => ?_⟩) (by assumption) ?_
    · have s1 := hSw.1
      clear s1
      go_simp
    simp only [Act.put, List.getElem_toArray, List.getElem_cons_zero, List.getElem_cons_succ, List.setIfInBounds_toArray, List.set_cons_zero, List.set_cons_succ]
    refine wpAnyH_take (i := 4) (v := .agg #[.int .i64 (eA es E), .int .i64 (eB es E)]) rfl (by kernel_rfl) (by kernel_rfl) (by kernel_rfl) (fun _ _ _ h => h) (Or.inl ⟨by rfl, fun w' hSw => ?_⟩) (by assumption) ?_
    · have s1 := hSw.1
      have s2 := hSw.2.1
      have s3 := hSw.2.2.1
      go_simp
    simp only [Act.put, List.getElem_toArray, List.getElem_cons_zero, List.getElem_cons_succ, List.setIfInBounds_toArray, List.set_cons_zero, List.set_cons_succ]
    refine wpAnyH_take (i := 5) (v := .pointer (some ⟨w.heap.size, 1, none⟩)) rfl (by kernel_rfl) (by kernel_rfl) (by kernel_rfl) (fun _ _ _ h => h) (Or.inl ⟨by rfl, fun w' hSw => ?_⟩) (by assumption) ?_
    · have s1 := hSw.1
      clear s1
      go_simp
    simp only [Act.put, List.getElem_toArray, List.getElem_cons_zero, List.getElem_cons_succ, List.setIfInBounds_toArray, List.set_cons_zero, List.set_cons_succ]
    refine wpAnyH_take (i := 6) (v := .slice (some ⟨b, off, none⟩) n c) rfl (by kernel_rfl) (by kernel_rfl) (by kernel_rfl) (fun _ _ _ h => h) (Or.inl ⟨by rfl, fun w' hSw => ?_⟩) (by assumption) ?_
    · have s1 := hSw.1
      have s2 := hSw.2.1
      go_simp
    simp only [Act.put, List.getElem_toArray, List.getElem_cons_zero, List.getElem_cons_succ, List.setIfInBounds_toArray, List.set_cons_zero, List.set_cons_succ]
    refine wpAnyH_take (i := 7) (v := .int .i64 (F : Int)) rfl (by kernel_rfl) (by kernel_rfl) (by kernel_rfl) (fun _ _ _ h => h) (Or.inl ⟨by rfl, fun w' hSw => ?_⟩) (by assumption) ?_
    · have s1 := hSw.1
      clear s1
      go_simp
    simp only [Act.put, List.getElem_toArray, List.getElem_cons_zero, List.getElem_cons_succ, List.setIfInBounds_toArray, List.set_cons_zero, List.set_cons_succ]
    refine wpAnyH_take (i := 8) (v := .pointer (some ⟨b, off + F * 2, none⟩)) rfl (by kernel_rfl) (by kernel_rfl) (by kernel_rfl) (fun _ _ _ h => h) (Or.inl ⟨by rfl, fun w' hSw => ?_⟩) (by assumption) ?_
    · have s1 := hSw.1
      clear s1
      go_simp
    simp only [Act.put, List.getElem_toArray, List.getElem_cons_zero, List.getElem_cons_succ, List.setIfInBounds_toArray, List.set_cons_zero, List.set_cons_succ]
    refine wpAnyH_take (i := 9) (v := .agg #[.int .i64 (eA es F), .int .i64 (eB es F)]) rfl (by kernel_rfl) (by kernel_rfl) (by kernel_rfl) (fun _ _ _ h => h) (Or.inl ⟨by rfl, fun w' hSw => ?_⟩) (by assumption) ?_
    · have s1 := hSw.1
      have s4 := hSw.2.2.2.1
      have s5 := hSw.2.2.2.2.1
      go_simp
    simp only [Act.put, List.getElem_toArray, List.getElem_cons_zero, List.getElem_cons_succ, List.setIfInBounds_toArray, List.set_cons_zero, List.set_cons_succ]
    refine wpAnyH_ready (rs := [10]) (by kernel_rfl) (by simp) ?_
    refine AllReadyH.cons rfl (fun K hK => ?_) AllReadyH.nil
    go_simp
    refine (iHave_any _ _ _ _ _).mono ?_
    rw [HNr'.out]
    rintro e' wa ⟨rfl, hba⟩
    have HBa := hid (bfrom (w := w5) (Below.refl _ _).drew hba)
    clear hba
    refine hK.out _ _ (HSof.out _ HBa.out) (fun _ => ?_)
    clear hK K
    refine wpAnyH_take (i := 11) (v := .bool false) rfl (by kernel_rfl) (by kernel_rfl) (by kernel_rfl) (fun _ _ _ h => h) (Or.inl ⟨by rfl, fun w' hSw => ?_⟩) (by assumption) ?_
    · have s1 := hSw.1
      clear s1
      go_simp
    simp only [Act.put, List.getElem_toArray, List.getElem_cons_zero, List.getElem_cons_succ, List.setIfInBounds_toArray, List.set_cons_zero, List.set_cons_succ]
    refine wpAnyH_take (i := 12) (v := .agg #[.int .i64 t, .slice (some ⟨b2, o2, none⟩) m d]) rfl (by kernel_rfl) (by kernel_rfl) (by kernel_rfl) (fun _ _ _ h => h) (Or.inl ⟨by rfl, fun w' hSw => ?_⟩) (by assumption) ?_
    · have s1 := hSw.1
      have s6 := hSw.2.2.2.2.2.1
      have s7 := hSw.2.2.2.2.2.2
      go_simp
    simp only [Act.put, List.getElem_toArray, List.getElem_cons_zero, List.getElem_cons_succ, List.setIfInBounds_toArray, List.set_cons_zero, List.set_cons_succ]
    refine wpAnyH_take (i := 14) (v := .int .i64 a) rfl (by kernel_rfl) (by kernel_rfl) (by kernel_rfl) (fun _ _ _ h => h) (Or.inl ⟨by rfl, fun w' hSw => ?_⟩) (by assumption) ?_
    · have s1 := hSw.1
      clear s1
      go_simp
    simp only [Act.put, List.getElem_toArray, List.getElem_cons_zero, List.getElem_cons_succ, List.setIfInBounds_toArray, List.set_cons_zero, List.set_cons_succ]
    refine wpAnyH_take (i := 15) (v := .int .i64 b') rfl (by kernel_rfl) (by kernel_rfl) (by kernel_rfl) (fun _ _ _ h => h) (Or.inl ⟨by rfl, fun w' hSw => ?_⟩) (by assumption) ?_
    · have s1 := hSw.1
      clear s1
      go_simp
    simp only [Act.put, List.getElem_toArray, List.getElem_cons_zero, List.getElem_cons_succ, List.setIfInBounds_toArray, List.set_cons_zero, List.set_cons_succ]
    refine wpAnyH_ready (rs := [13]) (by kernel_rfl) (by simp) ?_
    refine AllReadyH.cons rfl (fun K hK => ?_) AllReadyH.nil
    go_simp
    refine (iCounts_any t b2 o2 m d fs _ Hn2.out (by omega) (HR20.out.on (bfrom HB5.out HBa.out)) (reads_lt (HR20.out.on (bfrom HB5.out HBa.out)) (by have := Hn2.out; omega)) HWf.out).mono ?_
    rintro e' wm ⟨mp, rfl, hmp, hMp, hbm⟩
    have HBm := hid (bfrom HBa.out hbm)
    have HMp := hid hMp
    have HMl := hid hMp.lt
    clear hMp hbm
    refine hK.out _ _ (HSof.out _ HBm.out) (fun _ => ?_)
    clear hK K
    refine wpAnyH_ready (rs := [16]) (by kernel_rfl) (by simp) ?_
    refine AllReadyH.cons rfl (fun K hK => ?_) AllReadyH.nil
    go_simp
    refine (iJoin2_any a b' _).mono ?_
    rintro e' wj ⟨rfl, hbj⟩
    have HBj := hid (bfrom HBm.out hbj)
    have hlook := MapN.look (HMp.out.same (hbj.block _ HMl.out)) Try.underlying63 HWx.out HWy.out
    rw [HJn.out] at hlook
    clear hbj
    refine hK.out _ _ (HSof.out _ HBj.out) (fun _ => ?_)
    clear hK K
    refine wpAnyH_ready (rs := [17]) (by kernel_rfl) (by simp) ?_
    refine AllReadyH.cons rfl (fun K hK => ?_) AllReadyH.nil
    go_simp
    refine hK.out _ _ (HSof.out _ HBj.out) (fun _ => ?_)
    clear hK K
    refine wpAnyH_take (i := 18) (v := .bool true) rfl (by kernel_rfl) (by kernel_rfl) (by kernel_rfl) (fun _ _ _ h => h) (Or.inl ⟨by rfl, fun w' hSw => ?_⟩) (by assumption) ?_
    · have s1 := hSw.1
      clear s1
      go_simp
    simp only [Act.put, List.getElem_toArray, List.getElem_cons_zero, List.getElem_cons_succ, List.setIfInBounds_toArray, List.set_cons_zero, List.set_cons_succ]
    refine wpAnyH_take (i := 19) (v := .bool true) rfl (by kernel_rfl) (by kernel_rfl) (by kernel_rfl) (fun _ _ _ h => h) (Or.inl ⟨by rfl, fun w' hSw => ?_⟩) (by assumption) ?_
    · have s1 := hSw.1
      clear s1
      go_simp
    simp only [Act.put, List.getElem_toArray, List.getElem_cons_zero, List.getElem_cons_succ, List.setIfInBounds_toArray, List.set_cons_zero, List.set_cons_succ]
    refine wpAnyH_done (by kernel_rfl) ?_ _
    go_wp2_with fail
    go_meet
    exact ⟨rfl, HBj⟩
  case rest =>
  obtain ⟨rfl, hcb⟩ := hcut
  obtain ⟨w6, rfl⟩ : ∃ w6, w6 = wc := ⟨_, rfl⟩
  have hb6 := hcb.out
  clear hcb HSof
  have HB6 := hid (bfrom HB5.out hb6)
  have HG6 := hid (HG5.out.on hb6)
  have HH6 := hid (HH5.out.on hb6)
  have HK6 := hid (HK5.out.on hb6)
  clear hb6
  clear hx5 hy5 hl5 hu5 hv5 hw5 hkx5 hky5 hkl5 hfx5 hfy5
  have hx6 := HG6.out.box.1
  have hy6 := HG6.out.box.2
  have hl6 := HG6.out.lt
  have hu6 := HH6.out.box.1
  have hv6 := HH6.out.box.2
  have hw6 := HH6.out.lt
  have hkx6 := HK6.out.box.1
  have hky6 := HK6.out.box.2
  have hkl6 := HK6.out.lt
  have hfx6 := HK6.out.frozen 0
  have hfy6 := HK6.out.frozen 1
  go_wp2_with fail
  refine bodyPost_ret (v := .tuple #[.agg #[.int .i64 0, .slice none 0 0], .int .i64 5]) (by simp [results, Try.results9, go_sem, hkx6, hky6]) rfl ⟨rfl, ?_⟩
  have h := HB6.out
  go_grown

set_option maxRecDepth 100000 in
set_option maxHeartbeats 8000000 in
theorem iDp_big (b off n c b2 o2 m d E F : Nat) (s t a b' : Int) (es fs : List (Int × Int)) (w : World) (hn : es.length = n) (hr0 : ReadsE w b off es) (hn2 : fs.length = m) (hr20 : ReadsE w b2 o2 fs) (g1 : IsG s es) (g2 : IsG t fs) (hE : E < n) (hF : F < n) (ha : 0 ≤ a ∧ a < t) (hb : 0 ≤ b' ∧ b' < t) (hnr : nearB es E F = false) (hj : jcU fs (min a b') (max a b') m = 1) (h22 : 22 < s + t) :
    Calls Try.prog 9 #[.agg #[.int .i64 s, .slice (some ⟨b, off, none⟩) n c], .int .i64 E, .int .i64 F, .agg #[.int .i64 t, .slice (some ⟨b2, o2, none⟩) m d], .int .i64 a, .int .i64 b'] w fun e' w' => e' = .returned (.tuple #[.agg #[.int .i64 0, .slice none 0 0], .int .i64 3]) ∧ Below w.heap.size w w' := by
  have hm : n ≤ 1048576 := by have := isG_len g1; omega
  have hm2 : m ≤ 1048576 := by have := isG_len g2; omega
  have hm30 : m ≤ 30 := by have := isG_len g2; omega
  have hn30 : n ≤ 30 := by have := isG_len g1; omega
  have h6 : 1 ≤ m := by have := g2.1.1; unfold okSize at this; omega
  have hr : SeesE w (some ⟨b, off, none⟩) es := .inr ⟨b, off, rfl, hr0⟩
  have hr2 : SeesE w (some ⟨b2, o2, none⟩) fs := .inr ⟨b2, o2, rfl, hr20⟩
  have HR0 := hid hr0
  have HR20 := hid hr20
  have HEn := hid hE
  have HFn := hid hF
  have Ha := hid ha
  have Hb := hid hb
  have hEn : (E : Int) < (n : Int) := by omega
  have hFn : (F : Int) < (n : Int) := by omega
  have Q1 := hid (show (0 ≤ (E : Int) ∧ (E : Int) < (n : Int)) ∧ (0 ≤ (F : Int) ∧ (F : Int) < (n : Int)) by omega)
  have Q2 := hid (And.intro ha hb)
  have HWf := hid (show ∀ i, i < fs.length → (Lit.int .i64 (eA fs i)).wf = true ∧ (Lit.int .i64 (eB fs i)).wf = true from fun i hi => by have := isG_pos g2 hi; have h := g2.1.1; unfold okSize at h; exact ⟨wf_small (by omega), wf_small (by omega)⟩)
  have HWx := hid (show (Lit.int .i64 (min a b')).wf = true from wf_small (by have h := g2.1.1; unfold okSize at h; omega))
  have HWy := hid (show (Lit.int .i64 (max a b')).wf = true from wf_small (by have h := g2.1.1; unfold okSize at h; omega))
  have HJn := hid (show jnN fs m (min a b') (max a b') = 1 by unfold jnN; rw [hj]; rfl)
  have HNr := hid hnr
  have h3 : decide (20 < s + t - 2) = true := decide_eq_true (by omega)
  have e1 : IntKind.i64.wrap (s + t) = s + t := IntWalk.i64_in _ (by have h := g1.1.1; have h' := g2.1.1; unfold okSize at h h'; omega)
  have e2 : IntKind.i64.wrap (s + t - 2) = s + t - 2 := IntWalk.i64_in _ (by have h := g1.1.1; have h' := g2.1.1; unfold okSize at h h'; omega)
  clear hnr hj
  have Hn := hid hn
  have Hr := hid hr
  have Hn2 := hid hn2
  have Hr2 := hid hr2
  have G1 := hid g1
  have G2 := hid g2
  clear hn hr hn2 hr2 g1 g2 hr0 hr20 ha hb
  go_enter Try.func9, Try.ntmps9
  go_wp2_with fail
  refine (iIsGraph_any _ _ _ _ es _ (by omega) Hn.out (Hr.out.on (bfrom (bfrom (on_alloc _ _) (on_alloc _ _)) (on_alloc _ _)))).mono ?_
  rw [decide_eq_true G1.out]
  rintro e' w2 ⟨rfl, hb2⟩
  have HB2 := hid (bfrom (w := w) (bfrom (bfrom (on_alloc _ _) (on_alloc _ _)) (on_alloc _ _)) hb2)
  have HG2 := hid ((((GBox.new w w.heap.size rfl : GBox _ _ s (some ⟨b, off, none⟩) n c).on (on_alloc _ _)).on (on_alloc _ _)).on hb2)
  have HH2 := hid ((((GBox.new _ (w.heap.size + 1) (by simp) : GBox _ _ t (some ⟨b2, o2, none⟩) m d)).on (on_alloc _ _)).on hb2)
  have HK2 := hid ((GBox.new _ (w.heap.size + 1 + 1) (by simp) : GBox _ _ 0 none 0 0).on hb2)
  clear hb2
  have hx2 := HG2.out.box.1
  have hy2 := HG2.out.box.2
  have hl2 := HG2.out.lt
  have hu2 := HH2.out.box.1
  have hv2 := HH2.out.box.2
  have hw2 := HH2.out.lt
  have hkx2 := HK2.out.box.1
  have hky2 := HK2.out.box.2
  have hkl2 := HK2.out.lt
  have hfx2 := HK2.out.frozen 0
  have hfy2 := HK2.out.frozen 1
  go_wp2_with fail
  refine (iIsGraph_any _ _ _ _ fs _ (by omega) Hn2.out (Hr2.out.on HB2.out)).mono ?_
  rw [decide_eq_true G2.out]
  rintro e' w3 ⟨rfl, hb3⟩
  have HB3 := hid (bfrom HB2.out hb3)
  have HG3 := hid (HG2.out.on hb3)
  have HH3 := hid (HH2.out.on hb3)
  have HK3 := hid (HK2.out.on hb3)
  clear hb3
  clear hx2 hy2 hl2 hu2 hv2 hw2 hkx2 hky2 hkl2 hfx2 hfy2
  have hx3 := HG3.out.box.1
  have hy3 := HG3.out.box.2
  have hl3 := HG3.out.lt
  have hu3 := HH3.out.box.1
  have hv3 := HH3.out.box.2
  have hw3 := HH3.out.lt
  have hkx3 := HK3.out.box.1
  have hky3 := HK3.out.box.2
  have hkl3 := HK3.out.lt
  have hfx3 := HK3.out.frozen 0
  have hfy3 := HK3.out.frozen 1
  go_wp2_with fail
  obtain ⟨W3, hW3⟩ : ∃ W3, W3 = w3.alloc (.cells #[.int .i64 (E : Int), .int .i64 (F : Int)] 2) := ⟨_, rfl⟩
  rw [← hW3]
  refine (iBelowD_yes (n : Int) (E : Int) (F : Int) w3.heap.size 2 W3 Q1.out (by rw [hW3]; exact reads_twoY _ _ _ _ _ rfl)).mono ?_
  rintro e' w4 ⟨rfl, rfl⟩
  have hb4 : Below w3.heap.size w3 w4 := by rw [hW3]; exact on_alloc _ _
  clear hW3
  have HB4 := hid (bfrom HB3.out hb4)
  have HG4 := hid (HG3.out.on hb4)
  have HH4 := hid (HH3.out.on hb4)
  have HK4 := hid (HK3.out.on hb4)
  clear hb4
  clear hx3 hy3 hl3 hu3 hv3 hw3 hkx3 hky3 hkl3 hfx3 hfy3
  have hx4 := HG4.out.box.1
  have hy4 := HG4.out.box.2
  have hl4 := HG4.out.lt
  have hu4 := HH4.out.box.1
  have hv4 := HH4.out.box.2
  have hw4 := HH4.out.lt
  have hkx4 := HK4.out.box.1
  have hky4 := HK4.out.box.2
  have hkl4 := HK4.out.lt
  have hfx4 := HK4.out.frozen 0
  have hfy4 := HK4.out.frozen 1
  go_wp2_with fail
  obtain ⟨W4, hW4⟩ : ∃ W4, W4 = w4.alloc (.cells #[.int .i64 a, .int .i64 b'] 2) := ⟨_, rfl⟩
  rw [← hW4]
  refine (iBelowD_yes t a b' w4.heap.size 2 W4 Q2.out (by rw [hW4]; exact reads_twoY _ _ _ _ _ rfl)).mono ?_
  rintro e' w5 ⟨rfl, rfl⟩
  have hb5 : Below w4.heap.size w4 w5 := by rw [hW4]; exact on_alloc _ _
  clear hW4
  have HB5 := hid (bfrom HB4.out hb5)
  have HG5 := hid (HG4.out.on hb5)
  have HH5 := hid (HH4.out.on hb5)
  have HK5 := hid (HK4.out.on hb5)
  clear hb5
  clear hx4 hy4 hl4 hu4 hv4 hw4 hkx4 hky4 hkl4 hfx4 hfy4
  have hx5 := HG5.out.box.1
  have hy5 := HG5.out.box.2
  have hl5 := HG5.out.lt
  have hu5 := HH5.out.box.1
  have hv5 := HH5.out.box.2
  have hw5 := HH5.out.lt
  have hkx5 := HK5.out.box.1
  have hky5 := HK5.out.box.2
  have hkl5 := HK5.out.lt
  have hfx5 := HK5.out.frozen 0
  have hfy5 := HK5.out.frozen 1
  have HSof := hid (fun (w' : World) (hb : Below w5.heap.size w5 w') => (show w'.cell? ⟨w.heap.size, 1, none⟩ = some (.slice (some ⟨b, off, none⟩) n c) ∧ w'.cell? ⟨b, off + E * 2, none⟩ = some (.int .i64 (eA es E)) ∧ w'.cell? ⟨b, off + E * 2 + 1, none⟩ = some (.int .i64 (eB es E)) ∧ w'.cell? ⟨b, off + F * 2, none⟩ = some (.int .i64 (eA es F)) ∧ w'.cell? ⟨b, off + F * 2 + 1, none⟩ = some (.int .i64 (eB es F)) ∧ w'.cell? ⟨w.heap.size + 1, 0, none⟩ = some (.int .i64 t) ∧ w'.cell? ⟨w.heap.size + 1, 1, none⟩ = some (.slice (some ⟨b2, o2, none⟩) m d) from ⟨(HG5.out.on hb).box.2, (HR0.out.on (bfrom HB5.out hb) E (by have := Hn.out; omega)).1, (HR0.out.on (bfrom HB5.out hb) E (by have := Hn.out; omega)).2, (HR0.out.on (bfrom HB5.out hb) F (by have := Hn.out; omega)).1, (HR0.out.on (bfrom HB5.out hb) F (by have := Hn.out; omega)).2, (HH5.out.on hb).box.1, (HH5.out.on hb).box.2⟩))
  go_upto_region 5 with fail
  go_cut [60] (fun u wx => u = .bool false ∧ Hid (Below w5.heap.size w5 wx))
  case first =>
    have HNr' := hid (show meetB (eA es E) (eB es E) (eA es F) (eB es F) = false from HNr.out)
    refine wp_region_held_drew (S := fun w' => w'.cell? ⟨w.heap.size, 1, none⟩ = some (.slice (some ⟨b, off, none⟩) n c) ∧ w'.cell? ⟨b, off + E * 2, none⟩ = some (.int .i64 (eA es E)) ∧ w'.cell? ⟨b, off + E * 2 + 1, none⟩ = some (.int .i64 (eB es E)) ∧ w'.cell? ⟨b, off + F * 2, none⟩ = some (.int .i64 (eA es F)) ∧ w'.cell? ⟨b, off + F * 2 + 1, none⟩ = some (.int .i64 (eB es F)) ∧ w'.cell? ⟨w.heap.size + 1, 0, none⟩ = some (.int .i64 t) ∧ w'.cell? ⟨w.heap.size + 1, 1, none⟩ = some (.slice (some ⟨b2, o2, none⟩) m d)) (by kernel_rfl) (HSof.out _ (Below.refl _ _).drew) (fun hHeld => ?_)
    refine wpAnyH_take (i := 0) (v := .pointer (some ⟨w.heap.size, 1, none⟩)) rfl (by kernel_rfl) (by kernel_rfl) (by kernel_rfl) (fun _ _ _ h => h) (Or.inl ⟨by rfl, fun w' hSw => ?_⟩) (by assumption) ?_
    · have s1 := hSw.1
      clear s1
      go_simp
    simp only [Act.put, List.getElem_toArray, List.getElem_cons_zero, List.setIfInBounds_toArray, List.set_cons_zero, List.set_cons_succ]
    refine wpAnyH_take (i := 1) (v := .slice (some ⟨b, off, none⟩) n c) rfl (by kernel_rfl) (by kernel_rfl) (by kernel_rfl) (fun _ _ _ h => h) (Or.inl ⟨by rfl, fun w' hSw => ?_⟩) (by assumption) ?_
    · have s1 := hSw.1
      have s2 := hSw.2.1
      go_simp
    simp only [Act.put, List.getElem_toArray, List.getElem_cons_zero, List.getElem_cons_succ, List.setIfInBounds_toArray, List.set_cons_zero, List.set_cons_succ]
    refine wpAnyH_take (i := 2) (v := .int .i64 (E : Int)) rfl (by kernel_rfl) (by kernel_rfl) (by kernel_rfl) (fun _ _ _ h => h) (Or.inl ⟨by rfl, fun w' hSw => ?_⟩) (by assumption) ?_
    · have s1 := hSw.1
      clear s1
      go_simp
    simp only [Act.put, List.getElem_toArray, List.getElem_cons_zero, List.getElem_cons_succ, List.setIfInBounds_toArray, List.set_cons_zero, List.set_cons_succ]
    refine wpAnyH_take (i := 3) (v := .pointer (some ⟨b, off + E * 2, none⟩)) rfl (by kernel_rfl) (by kernel_rfl) (by kernel_rfl) (fun _ _ _ h => h) (Or.inl ⟨by rfl, fun w' hSw => ?_⟩) (by assumption) ?_
    · have s1 := hSw.1
      clear s1
      go_simp
    simp only [Act.put, List.getElem_toArray, List.getElem_cons_zero, List.getElem_cons_succ, List.setIfInBounds_toArray, List.set_cons_zero, List.set_cons_succ]
    refine wpAnyH_take (i := 4) (v := .agg #[.int .i64 (eA es E), .int .i64 (eB es E)]) rfl (by kernel_rfl) (by kernel_rfl) (by kernel_rfl) (fun _ _ _ h => h) (Or.inl ⟨by rfl, fun w' hSw => ?_⟩) (by assumption) ?_
    · have s1 := hSw.1
      have s2 := hSw.2.1
      have s3 := hSw.2.2.1
      go_simp
    simp only [Act.put, List.getElem_toArray, List.getElem_cons_zero, List.getElem_cons_succ, List.setIfInBounds_toArray, List.set_cons_zero, List.set_cons_succ]
    refine wpAnyH_take (i := 5) (v := .pointer (some ⟨w.heap.size, 1, none⟩)) rfl (by kernel_rfl) (by kernel_rfl) (by kernel_rfl) (fun _ _ _ h => h) (Or.inl ⟨by rfl, fun w' hSw => ?_⟩) (by assumption) ?_
    · have s1 := hSw.1
      clear s1
      go_simp
    simp only [Act.put, List.getElem_toArray, List.getElem_cons_zero, List.getElem_cons_succ, List.setIfInBounds_toArray, List.set_cons_zero, List.set_cons_succ]
    refine wpAnyH_take (i := 6) (v := .slice (some ⟨b, off, none⟩) n c) rfl (by kernel_rfl) (by kernel_rfl) (by kernel_rfl) (fun _ _ _ h => h) (Or.inl ⟨by rfl, fun w' hSw => ?_⟩) (by assumption) ?_
    · have s1 := hSw.1
      have s2 := hSw.2.1
      go_simp
    simp only [Act.put, List.getElem_toArray, List.getElem_cons_zero, List.getElem_cons_succ, List.setIfInBounds_toArray, List.set_cons_zero, List.set_cons_succ]
    refine wpAnyH_take (i := 7) (v := .int .i64 (F : Int)) rfl (by kernel_rfl) (by kernel_rfl) (by kernel_rfl) (fun _ _ _ h => h) (Or.inl ⟨by rfl, fun w' hSw => ?_⟩) (by assumption) ?_
    · have s1 := hSw.1
      clear s1
      go_simp
    simp only [Act.put, List.getElem_toArray, List.getElem_cons_zero, List.getElem_cons_succ, List.setIfInBounds_toArray, List.set_cons_zero, List.set_cons_succ]
    refine wpAnyH_take (i := 8) (v := .pointer (some ⟨b, off + F * 2, none⟩)) rfl (by kernel_rfl) (by kernel_rfl) (by kernel_rfl) (fun _ _ _ h => h) (Or.inl ⟨by rfl, fun w' hSw => ?_⟩) (by assumption) ?_
    · have s1 := hSw.1
      clear s1
      go_simp
    simp only [Act.put, List.getElem_toArray, List.getElem_cons_zero, List.getElem_cons_succ, List.setIfInBounds_toArray, List.set_cons_zero, List.set_cons_succ]
    refine wpAnyH_take (i := 9) (v := .agg #[.int .i64 (eA es F), .int .i64 (eB es F)]) rfl (by kernel_rfl) (by kernel_rfl) (by kernel_rfl) (fun _ _ _ h => h) (Or.inl ⟨by rfl, fun w' hSw => ?_⟩) (by assumption) ?_
    · have s1 := hSw.1
      have s4 := hSw.2.2.2.1
      have s5 := hSw.2.2.2.2.1
      go_simp
    simp only [Act.put, List.getElem_toArray, List.getElem_cons_zero, List.getElem_cons_succ, List.setIfInBounds_toArray, List.set_cons_zero, List.set_cons_succ]
    refine wpAnyH_ready (rs := [10]) (by kernel_rfl) (by simp) ?_
    refine AllReadyH.cons rfl (fun K hK => ?_) AllReadyH.nil
    go_simp
    refine (iHave_any _ _ _ _ _).mono ?_
    rw [HNr'.out]
    rintro e' wa ⟨rfl, hba⟩
    have HBa := hid (bfrom (w := w5) (Below.refl _ _).drew hba)
    clear hba
    refine hK.out _ _ (HSof.out _ HBa.out) (fun _ => ?_)
    clear hK K
    refine wpAnyH_take (i := 11) (v := .bool false) rfl (by kernel_rfl) (by kernel_rfl) (by kernel_rfl) (fun _ _ _ h => h) (Or.inl ⟨by rfl, fun w' hSw => ?_⟩) (by assumption) ?_
    · have s1 := hSw.1
      clear s1
      go_simp
    simp only [Act.put, List.getElem_toArray, List.getElem_cons_zero, List.getElem_cons_succ, List.setIfInBounds_toArray, List.set_cons_zero, List.set_cons_succ]
    refine wpAnyH_take (i := 12) (v := .agg #[.int .i64 t, .slice (some ⟨b2, o2, none⟩) m d]) rfl (by kernel_rfl) (by kernel_rfl) (by kernel_rfl) (fun _ _ _ h => h) (Or.inl ⟨by rfl, fun w' hSw => ?_⟩) (by assumption) ?_
    · have s1 := hSw.1
      have s6 := hSw.2.2.2.2.2.1
      have s7 := hSw.2.2.2.2.2.2
      go_simp
    simp only [Act.put, List.getElem_toArray, List.getElem_cons_zero, List.getElem_cons_succ, List.setIfInBounds_toArray, List.set_cons_zero, List.set_cons_succ]
    refine wpAnyH_take (i := 14) (v := .int .i64 a) rfl (by kernel_rfl) (by kernel_rfl) (by kernel_rfl) (fun _ _ _ h => h) (Or.inl ⟨by rfl, fun w' hSw => ?_⟩) (by assumption) ?_
    · have s1 := hSw.1
      clear s1
      go_simp
    simp only [Act.put, List.getElem_toArray, List.getElem_cons_zero, List.getElem_cons_succ, List.setIfInBounds_toArray, List.set_cons_zero, List.set_cons_succ]
    refine wpAnyH_take (i := 15) (v := .int .i64 b') rfl (by kernel_rfl) (by kernel_rfl) (by kernel_rfl) (fun _ _ _ h => h) (Or.inl ⟨by rfl, fun w' hSw => ?_⟩) (by assumption) ?_
    · have s1 := hSw.1
      clear s1
      go_simp
    simp only [Act.put, List.getElem_toArray, List.getElem_cons_zero, List.getElem_cons_succ, List.setIfInBounds_toArray, List.set_cons_zero, List.set_cons_succ]
    refine wpAnyH_ready (rs := [13]) (by kernel_rfl) (by simp) ?_
    refine AllReadyH.cons rfl (fun K hK => ?_) AllReadyH.nil
    go_simp
    refine (iCounts_any t b2 o2 m d fs _ Hn2.out (by omega) (HR20.out.on (bfrom HB5.out HBa.out)) (reads_lt (HR20.out.on (bfrom HB5.out HBa.out)) (by have := Hn2.out; omega)) HWf.out).mono ?_
    rintro e' wm ⟨mp, rfl, hmp, hMp, hbm⟩
    have HBm := hid (bfrom HBa.out hbm)
    have HMp := hid hMp
    have HMl := hid hMp.lt
    clear hMp hbm
    refine hK.out _ _ (HSof.out _ HBm.out) (fun _ => ?_)
    clear hK K
    refine wpAnyH_ready (rs := [16]) (by kernel_rfl) (by simp) ?_
    refine AllReadyH.cons rfl (fun K hK => ?_) AllReadyH.nil
    go_simp
    refine (iJoin2_any a b' _).mono ?_
    rintro e' wj ⟨rfl, hbj⟩
    have HBj := hid (bfrom HBm.out hbj)
    have hlook := MapN.look (HMp.out.same (hbj.block _ HMl.out)) Try.underlying63 HWx.out HWy.out
    rw [HJn.out] at hlook
    clear hbj
    refine hK.out _ _ (HSof.out _ HBj.out) (fun _ => ?_)
    clear hK K
    refine wpAnyH_ready (rs := [17]) (by kernel_rfl) (by simp) ?_
    refine AllReadyH.cons rfl (fun K hK => ?_) AllReadyH.nil
    go_simp
    refine hK.out _ _ (HSof.out _ HBj.out) (fun _ => ?_)
    clear hK K
    refine wpAnyH_take (i := 18) (v := .bool false) rfl (by kernel_rfl) (by kernel_rfl) (by kernel_rfl) (fun _ _ _ h => h) (Or.inl ⟨by rfl, fun w' hSw => ?_⟩) (by assumption) ?_
    · have s1 := hSw.1
      clear s1
      go_simp
    simp only [Act.put, List.getElem_toArray, List.getElem_cons_zero, List.getElem_cons_succ, List.setIfInBounds_toArray, List.set_cons_zero, List.set_cons_succ]
    refine wpAnyH_take (i := 19) (v := .bool false) rfl (by kernel_rfl) (by kernel_rfl) (by kernel_rfl) (fun _ _ _ h => h) (Or.inl ⟨by rfl, fun w' hSw => ?_⟩) (by assumption) ?_
    · have s1 := hSw.1
      clear s1
      go_simp
    simp only [Act.put, List.getElem_toArray, List.getElem_cons_zero, List.getElem_cons_succ, List.setIfInBounds_toArray, List.set_cons_zero, List.set_cons_succ]
    refine wpAnyH_done (by kernel_rfl) ?_ _
    go_wp2_with fail
    go_meet
    exact ⟨rfl, HBj⟩
  case rest =>
  obtain ⟨rfl, hcb⟩ := hcut
  obtain ⟨w6, rfl⟩ : ∃ w6, w6 = wc := ⟨_, rfl⟩
  have hb6 := hcb.out
  clear hcb HSof
  have HB6 := hid (bfrom HB5.out hb6)
  have HG6 := hid (HG5.out.on hb6)
  have HH6 := hid (HH5.out.on hb6)
  have HK6 := hid (HK5.out.on hb6)
  clear hb6
  clear hx5 hy5 hl5 hu5 hv5 hw5 hkx5 hky5 hkl5 hfx5 hfy5
  have hx6 := HG6.out.box.1
  have hy6 := HG6.out.box.2
  have hl6 := HG6.out.lt
  have hu6 := HH6.out.box.1
  have hv6 := HH6.out.box.2
  have hw6 := HH6.out.lt
  have hkx6 := HK6.out.box.1
  have hky6 := HK6.out.box.2
  have hkl6 := HK6.out.lt
  have hfx6 := HK6.out.frozen 0
  have hfy6 := HK6.out.frozen 1
  go_wp2_with fail
  refine bodyPost_ret (v := .tuple #[.agg #[.int .i64 0, .slice none 0 0], .int .i64 3]) (by simp [results, Try.results9, go_sem, hkx6, hky6]) rfl ⟨rfl, ?_⟩
  have h := HB6.out
  go_grown

set_option maxRecDepth 100000 in
set_option maxHeartbeats 8000000 in
theorem iDp_yes (b off n c b2 o2 m d E F : Nat) (s t a b' : Int) (es fs : List (Int × Int)) (w : World) (hn : es.length = n) (hr0 : ReadsE w b off es) (hn2 : fs.length = m) (hr20 : ReadsE w b2 o2 fs) (g1 : IsG s es) (g2 : IsG t fs) (hE : E < n) (hF : F < n) (ha : 0 ≤ a ∧ a < t) (hb : 0 ≤ b' ∧ b' < t) (x y : Int) (A B : List Int) (j : Nat) (hnr : nearB es E F = false) (hst : s + t ≤ 22) (hx : min a b' = x) (hy : max a b' = y) (hD : DotF t fs a b' x y A B j) :
    Calls Try.prog 9 #[.agg #[.int .i64 s, .slice (some ⟨b, off, none⟩) n c], .int .i64 E, .int .i64 F, .agg #[.int .i64 t, .slice (some ⟨b2, o2, none⟩) m d], .int .i64 a, .int .i64 b'] w fun e' w' => ∃ q cap, e' = .returned (.tuple #[.agg #[.int .i64 (s + t - 2), .slice q (dotM s es E F fs a b' A B).length cap], .int .i64 0]) ∧ FreshE w.heap.size w' q (dotM s es E F fs a b' A B).length cap (sortE (dotM s es E F fs a b' A B)) ∧ Below w.heap.size w w' := by
  have hm : n ≤ 1048576 := by have := isG_len g1; omega
  have hm2 : m ≤ 1048576 := by have := isG_len g2; omega
  have hm30 : m ≤ 30 := by have := isG_len g2; omega
  have hn30 : n ≤ 30 := by have := isG_len g1; omega
  have h6 : 1 ≤ m := by have := g2.1.1; unfold okSize at this; omega
  have hr : SeesE w (some ⟨b, off, none⟩) es := .inr ⟨b, off, rfl, hr0⟩
  have hr2 : SeesE w (some ⟨b2, o2, none⟩) fs := .inr ⟨b2, o2, rfl, hr20⟩
  have HR0 := hid hr0
  have HR20 := hid hr20
  have HEn := hid hE
  have HFn := hid hF
  have Ha := hid ha
  have Hb := hid hb
  have hEn : (E : Int) < (n : Int) := by omega
  have hFn : (F : Int) < (n : Int) := by omega
  have Q1 := hid (show (0 ≤ (E : Int) ∧ (E : Int) < (n : Int)) ∧ (0 ≤ (F : Int) ∧ (F : Int) < (n : Int)) by omega)
  have Q2 := hid (And.intro ha hb)
  have HWf := hid (show ∀ i, i < fs.length → (Lit.int .i64 (eA fs i)).wf = true ∧ (Lit.int .i64 (eB fs i)).wf = true from fun i hi => by have := isG_pos g2 hi; have h := g2.1.1; unfold okSize at h; exact ⟨wf_small (by omega), wf_small (by omega)⟩)
  have HWx := hid (show (Lit.int .i64 (min a b')).wf = true from wf_small (by have h := g2.1.1; unfold okSize at h; omega))
  have HWy := hid (show (Lit.int .i64 (max a b')).wf = true from wf_small (by have h := g2.1.1; unfold okSize at h; omega))
  have hj : jcU fs (min a b') (max a b') m = 1 := by rw [hx, hy, ← hn2]; exact hD.cnt
  have HJn := hid (show jnN fs m (min a b') (max a b') = 1 by unfold jnN; rw [hj]; rfl)
  have HNr := hid hnr
  have HD := hid hD
  have Hx := hid hx
  have Hy := hid hy
  have h3 : decide (20 < s + t - 2) = false := decide_eq_false (by omega)
  have e1 : IntKind.i64.wrap (s + t) = s + t := IntWalk.i64_in _ (by have h := g1.1.1; have h' := g2.1.1; unfold okSize at h h'; omega)
  have e2 : IntKind.i64.wrap (s + t - 2) = s + t - 2 := IntWalk.i64_in _ (by have h := g1.1.1; have h' := g2.1.1; unfold okSize at h h'; omega)
  clear hnr hj hx hy hD
  have Hn := hid hn
  have Hr := hid hr
  have Hn2 := hid hn2
  have Hr2 := hid hr2
  have G1 := hid g1
  have G2 := hid g2
  clear hn hr hn2 hr2 g1 g2 hr0 hr20 ha hb
  go_enter Try.func9, Try.ntmps9
  go_wp2_with fail
  refine (iIsGraph_any _ _ _ _ es _ (by omega) Hn.out (Hr.out.on (bfrom (bfrom (on_alloc _ _) (on_alloc _ _)) (on_alloc _ _)))).mono ?_
  rw [decide_eq_true G1.out]
  rintro e' w2 ⟨rfl, hb2⟩
  have HB2 := hid (bfrom (w := w) (bfrom (bfrom (on_alloc _ _) (on_alloc _ _)) (on_alloc _ _)) hb2)
  have HG2 := hid ((((GBox.new w w.heap.size rfl : GBox _ _ s (some ⟨b, off, none⟩) n c).on (on_alloc _ _)).on (on_alloc _ _)).on hb2)
  have HH2 := hid ((((GBox.new _ (w.heap.size + 1) (by simp) : GBox _ _ t (some ⟨b2, o2, none⟩) m d)).on (on_alloc _ _)).on hb2)
  have HK2 := hid ((GBox.new _ (w.heap.size + 1 + 1) (by simp) : GBox _ _ 0 none 0 0).on hb2)
  clear hb2
  have hx2 := HG2.out.box.1
  have hy2 := HG2.out.box.2
  have hl2 := HG2.out.lt
  have hu2 := HH2.out.box.1
  have hv2 := HH2.out.box.2
  have hw2 := HH2.out.lt
  have hkx2 := HK2.out.box.1
  have hky2 := HK2.out.box.2
  have hkl2 := HK2.out.lt
  have hfx2 := HK2.out.frozen 0
  have hfy2 := HK2.out.frozen 1
  go_wp2_with fail
  refine (iIsGraph_any _ _ _ _ fs _ (by omega) Hn2.out (Hr2.out.on HB2.out)).mono ?_
  rw [decide_eq_true G2.out]
  rintro e' w3 ⟨rfl, hb3⟩
  have HB3 := hid (bfrom HB2.out hb3)
  have HG3 := hid (HG2.out.on hb3)
  have HH3 := hid (HH2.out.on hb3)
  have HK3 := hid (HK2.out.on hb3)
  clear hb3
  clear hx2 hy2 hl2 hu2 hv2 hw2 hkx2 hky2 hkl2 hfx2 hfy2
  have hx3 := HG3.out.box.1
  have hy3 := HG3.out.box.2
  have hl3 := HG3.out.lt
  have hu3 := HH3.out.box.1
  have hv3 := HH3.out.box.2
  have hw3 := HH3.out.lt
  have hkx3 := HK3.out.box.1
  have hky3 := HK3.out.box.2
  have hkl3 := HK3.out.lt
  have hfx3 := HK3.out.frozen 0
  have hfy3 := HK3.out.frozen 1
  go_wp2_with fail
  obtain ⟨W3, hW3⟩ : ∃ W3, W3 = w3.alloc (.cells #[.int .i64 (E : Int), .int .i64 (F : Int)] 2) := ⟨_, rfl⟩
  rw [← hW3]
  refine (iBelowD_yes (n : Int) (E : Int) (F : Int) w3.heap.size 2 W3 Q1.out (by rw [hW3]; exact reads_twoY _ _ _ _ _ rfl)).mono ?_
  rintro e' w4 ⟨rfl, rfl⟩
  have hb4 : Below w3.heap.size w3 w4 := by rw [hW3]; exact on_alloc _ _
  clear hW3
  have HB4 := hid (bfrom HB3.out hb4)
  have HG4 := hid (HG3.out.on hb4)
  have HH4 := hid (HH3.out.on hb4)
  have HK4 := hid (HK3.out.on hb4)
  clear hb4
  clear hx3 hy3 hl3 hu3 hv3 hw3 hkx3 hky3 hkl3 hfx3 hfy3
  have hx4 := HG4.out.box.1
  have hy4 := HG4.out.box.2
  have hl4 := HG4.out.lt
  have hu4 := HH4.out.box.1
  have hv4 := HH4.out.box.2
  have hw4 := HH4.out.lt
  have hkx4 := HK4.out.box.1
  have hky4 := HK4.out.box.2
  have hkl4 := HK4.out.lt
  have hfx4 := HK4.out.frozen 0
  have hfy4 := HK4.out.frozen 1
  go_wp2_with fail
  obtain ⟨W4, hW4⟩ : ∃ W4, W4 = w4.alloc (.cells #[.int .i64 a, .int .i64 b'] 2) := ⟨_, rfl⟩
  rw [← hW4]
  refine (iBelowD_yes t a b' w4.heap.size 2 W4 Q2.out (by rw [hW4]; exact reads_twoY _ _ _ _ _ rfl)).mono ?_
  rintro e' w5 ⟨rfl, rfl⟩
  have hb5 : Below w4.heap.size w4 w5 := by rw [hW4]; exact on_alloc _ _
  clear hW4
  have HB5 := hid (bfrom HB4.out hb5)
  have HG5 := hid (HG4.out.on hb5)
  have HH5 := hid (HH4.out.on hb5)
  have HK5 := hid (HK4.out.on hb5)
  clear hb5
  clear hx4 hy4 hl4 hu4 hv4 hw4 hkx4 hky4 hkl4 hfx4 hfy4
  have hx5 := HG5.out.box.1
  have hy5 := HG5.out.box.2
  have hl5 := HG5.out.lt
  have hu5 := HH5.out.box.1
  have hv5 := HH5.out.box.2
  have hw5 := HH5.out.lt
  have hkx5 := HK5.out.box.1
  have hky5 := HK5.out.box.2
  have hkl5 := HK5.out.lt
  have hfx5 := HK5.out.frozen 0
  have hfy5 := HK5.out.frozen 1
  have HSof := hid (fun (w' : World) (hb : Below w5.heap.size w5 w') => (show w'.cell? ⟨w.heap.size, 1, none⟩ = some (.slice (some ⟨b, off, none⟩) n c) ∧ w'.cell? ⟨b, off + E * 2, none⟩ = some (.int .i64 (eA es E)) ∧ w'.cell? ⟨b, off + E * 2 + 1, none⟩ = some (.int .i64 (eB es E)) ∧ w'.cell? ⟨b, off + F * 2, none⟩ = some (.int .i64 (eA es F)) ∧ w'.cell? ⟨b, off + F * 2 + 1, none⟩ = some (.int .i64 (eB es F)) ∧ w'.cell? ⟨w.heap.size + 1, 0, none⟩ = some (.int .i64 t) ∧ w'.cell? ⟨w.heap.size + 1, 1, none⟩ = some (.slice (some ⟨b2, o2, none⟩) m d) from ⟨(HG5.out.on hb).box.2, (HR0.out.on (bfrom HB5.out hb) E (by have := Hn.out; omega)).1, (HR0.out.on (bfrom HB5.out hb) E (by have := Hn.out; omega)).2, (HR0.out.on (bfrom HB5.out hb) F (by have := Hn.out; omega)).1, (HR0.out.on (bfrom HB5.out hb) F (by have := Hn.out; omega)).2, (HH5.out.on hb).box.1, (HH5.out.on hb).box.2⟩))
  go_upto_region 5 with fail
  go_cut [60] (fun u wx => u = .bool false ∧ Hid (Below w5.heap.size w5 wx))
  case first =>
    have HNr' := hid (show meetB (eA es E) (eB es E) (eA es F) (eB es F) = false from HNr.out)
    refine wp_region_held_drew (S := fun w' => w'.cell? ⟨w.heap.size, 1, none⟩ = some (.slice (some ⟨b, off, none⟩) n c) ∧ w'.cell? ⟨b, off + E * 2, none⟩ = some (.int .i64 (eA es E)) ∧ w'.cell? ⟨b, off + E * 2 + 1, none⟩ = some (.int .i64 (eB es E)) ∧ w'.cell? ⟨b, off + F * 2, none⟩ = some (.int .i64 (eA es F)) ∧ w'.cell? ⟨b, off + F * 2 + 1, none⟩ = some (.int .i64 (eB es F)) ∧ w'.cell? ⟨w.heap.size + 1, 0, none⟩ = some (.int .i64 t) ∧ w'.cell? ⟨w.heap.size + 1, 1, none⟩ = some (.slice (some ⟨b2, o2, none⟩) m d)) (by kernel_rfl) (HSof.out _ (Below.refl _ _).drew) (fun hHeld => ?_)
    refine wpAnyH_take (i := 0) (v := .pointer (some ⟨w.heap.size, 1, none⟩)) rfl (by kernel_rfl) (by kernel_rfl) (by kernel_rfl) (fun _ _ _ h => h) (Or.inl ⟨by rfl, fun w' hSw => ?_⟩) (by assumption) ?_
    · have s1 := hSw.1
      clear s1
      go_simp
    simp only [Act.put, List.getElem_toArray, List.getElem_cons_zero, List.setIfInBounds_toArray, List.set_cons_zero, List.set_cons_succ]
    refine wpAnyH_take (i := 1) (v := .slice (some ⟨b, off, none⟩) n c) rfl (by kernel_rfl) (by kernel_rfl) (by kernel_rfl) (fun _ _ _ h => h) (Or.inl ⟨by rfl, fun w' hSw => ?_⟩) (by assumption) ?_
    · have s1 := hSw.1
      have s2 := hSw.2.1
      go_simp
    simp only [Act.put, List.getElem_toArray, List.getElem_cons_zero, List.getElem_cons_succ, List.setIfInBounds_toArray, List.set_cons_zero, List.set_cons_succ]
    refine wpAnyH_take (i := 2) (v := .int .i64 (E : Int)) rfl (by kernel_rfl) (by kernel_rfl) (by kernel_rfl) (fun _ _ _ h => h) (Or.inl ⟨by rfl, fun w' hSw => ?_⟩) (by assumption) ?_
    · have s1 := hSw.1
      clear s1
      go_simp
    simp only [Act.put, List.getElem_toArray, List.getElem_cons_zero, List.getElem_cons_succ, List.setIfInBounds_toArray, List.set_cons_zero, List.set_cons_succ]
    refine wpAnyH_take (i := 3) (v := .pointer (some ⟨b, off + E * 2, none⟩)) rfl (by kernel_rfl) (by kernel_rfl) (by kernel_rfl) (fun _ _ _ h => h) (Or.inl ⟨by rfl, fun w' hSw => ?_⟩) (by assumption) ?_
    · have s1 := hSw.1
      clear s1
      go_simp
    simp only [Act.put, List.getElem_toArray, List.getElem_cons_zero, List.getElem_cons_succ, List.setIfInBounds_toArray, List.set_cons_zero, List.set_cons_succ]
    refine wpAnyH_take (i := 4) (v := .agg #[.int .i64 (eA es E), .int .i64 (eB es E)]) rfl (by kernel_rfl) (by kernel_rfl) (by kernel_rfl) (fun _ _ _ h => h) (Or.inl ⟨by rfl, fun w' hSw => ?_⟩) (by assumption) ?_
    · have s1 := hSw.1
      have s2 := hSw.2.1
      have s3 := hSw.2.2.1
      go_simp
    simp only [Act.put, List.getElem_toArray, List.getElem_cons_zero, List.getElem_cons_succ, List.setIfInBounds_toArray, List.set_cons_zero, List.set_cons_succ]
    refine wpAnyH_take (i := 5) (v := .pointer (some ⟨w.heap.size, 1, none⟩)) rfl (by kernel_rfl) (by kernel_rfl) (by kernel_rfl) (fun _ _ _ h => h) (Or.inl ⟨by rfl, fun w' hSw => ?_⟩) (by assumption) ?_
    · have s1 := hSw.1
      clear s1
      go_simp
    simp only [Act.put, List.getElem_toArray, List.getElem_cons_zero, List.getElem_cons_succ, List.setIfInBounds_toArray, List.set_cons_zero, List.set_cons_succ]
    refine wpAnyH_take (i := 6) (v := .slice (some ⟨b, off, none⟩) n c) rfl (by kernel_rfl) (by kernel_rfl) (by kernel_rfl) (fun _ _ _ h => h) (Or.inl ⟨by rfl, fun w' hSw => ?_⟩) (by assumption) ?_
    · have s1 := hSw.1
      have s2 := hSw.2.1
      go_simp
    simp only [Act.put, List.getElem_toArray, List.getElem_cons_zero, List.getElem_cons_succ, List.setIfInBounds_toArray, List.set_cons_zero, List.set_cons_succ]
    refine wpAnyH_take (i := 7) (v := .int .i64 (F : Int)) rfl (by kernel_rfl) (by kernel_rfl) (by kernel_rfl) (fun _ _ _ h => h) (Or.inl ⟨by rfl, fun w' hSw => ?_⟩) (by assumption) ?_
    · have s1 := hSw.1
      clear s1
      go_simp
    simp only [Act.put, List.getElem_toArray, List.getElem_cons_zero, List.getElem_cons_succ, List.setIfInBounds_toArray, List.set_cons_zero, List.set_cons_succ]
    refine wpAnyH_take (i := 8) (v := .pointer (some ⟨b, off + F * 2, none⟩)) rfl (by kernel_rfl) (by kernel_rfl) (by kernel_rfl) (fun _ _ _ h => h) (Or.inl ⟨by rfl, fun w' hSw => ?_⟩) (by assumption) ?_
    · have s1 := hSw.1
      clear s1
      go_simp
    simp only [Act.put, List.getElem_toArray, List.getElem_cons_zero, List.getElem_cons_succ, List.setIfInBounds_toArray, List.set_cons_zero, List.set_cons_succ]
    refine wpAnyH_take (i := 9) (v := .agg #[.int .i64 (eA es F), .int .i64 (eB es F)]) rfl (by kernel_rfl) (by kernel_rfl) (by kernel_rfl) (fun _ _ _ h => h) (Or.inl ⟨by rfl, fun w' hSw => ?_⟩) (by assumption) ?_
    · have s1 := hSw.1
      have s4 := hSw.2.2.2.1
      have s5 := hSw.2.2.2.2.1
      go_simp
    simp only [Act.put, List.getElem_toArray, List.getElem_cons_zero, List.getElem_cons_succ, List.setIfInBounds_toArray, List.set_cons_zero, List.set_cons_succ]
    refine wpAnyH_ready (rs := [10]) (by kernel_rfl) (by simp) ?_
    refine AllReadyH.cons rfl (fun K hK => ?_) AllReadyH.nil
    go_simp
    refine (iHave_any _ _ _ _ _).mono ?_
    rw [HNr'.out]
    rintro e' wa ⟨rfl, hba⟩
    have HBa := hid (bfrom (w := w5) (Below.refl _ _).drew hba)
    clear hba
    refine hK.out _ _ (HSof.out _ HBa.out) (fun _ => ?_)
    clear hK K
    refine wpAnyH_take (i := 11) (v := .bool false) rfl (by kernel_rfl) (by kernel_rfl) (by kernel_rfl) (fun _ _ _ h => h) (Or.inl ⟨by rfl, fun w' hSw => ?_⟩) (by assumption) ?_
    · have s1 := hSw.1
      clear s1
      go_simp
    simp only [Act.put, List.getElem_toArray, List.getElem_cons_zero, List.getElem_cons_succ, List.setIfInBounds_toArray, List.set_cons_zero, List.set_cons_succ]
    refine wpAnyH_take (i := 12) (v := .agg #[.int .i64 t, .slice (some ⟨b2, o2, none⟩) m d]) rfl (by kernel_rfl) (by kernel_rfl) (by kernel_rfl) (fun _ _ _ h => h) (Or.inl ⟨by rfl, fun w' hSw => ?_⟩) (by assumption) ?_
    · have s1 := hSw.1
      have s6 := hSw.2.2.2.2.2.1
      have s7 := hSw.2.2.2.2.2.2
      go_simp
    simp only [Act.put, List.getElem_toArray, List.getElem_cons_zero, List.getElem_cons_succ, List.setIfInBounds_toArray, List.set_cons_zero, List.set_cons_succ]
    refine wpAnyH_take (i := 14) (v := .int .i64 a) rfl (by kernel_rfl) (by kernel_rfl) (by kernel_rfl) (fun _ _ _ h => h) (Or.inl ⟨by rfl, fun w' hSw => ?_⟩) (by assumption) ?_
    · have s1 := hSw.1
      clear s1
      go_simp
    simp only [Act.put, List.getElem_toArray, List.getElem_cons_zero, List.getElem_cons_succ, List.setIfInBounds_toArray, List.set_cons_zero, List.set_cons_succ]
    refine wpAnyH_take (i := 15) (v := .int .i64 b') rfl (by kernel_rfl) (by kernel_rfl) (by kernel_rfl) (fun _ _ _ h => h) (Or.inl ⟨by rfl, fun w' hSw => ?_⟩) (by assumption) ?_
    · have s1 := hSw.1
      clear s1
      go_simp
    simp only [Act.put, List.getElem_toArray, List.getElem_cons_zero, List.getElem_cons_succ, List.setIfInBounds_toArray, List.set_cons_zero, List.set_cons_succ]
    refine wpAnyH_ready (rs := [13]) (by kernel_rfl) (by simp) ?_
    refine AllReadyH.cons rfl (fun K hK => ?_) AllReadyH.nil
    go_simp
    refine (iCounts_any t b2 o2 m d fs _ Hn2.out (by omega) (HR20.out.on (bfrom HB5.out HBa.out)) (reads_lt (HR20.out.on (bfrom HB5.out HBa.out)) (by have := Hn2.out; omega)) HWf.out).mono ?_
    rintro e' wm ⟨mp, rfl, hmp, hMp, hbm⟩
    have HBm := hid (bfrom HBa.out hbm)
    have HMp := hid hMp
    have HMl := hid hMp.lt
    clear hMp hbm
    refine hK.out _ _ (HSof.out _ HBm.out) (fun _ => ?_)
    clear hK K
    refine wpAnyH_ready (rs := [16]) (by kernel_rfl) (by simp) ?_
    refine AllReadyH.cons rfl (fun K hK => ?_) AllReadyH.nil
    go_simp
    refine (iJoin2_any a b' _).mono ?_
    rintro e' wj ⟨rfl, hbj⟩
    have HBj := hid (bfrom HBm.out hbj)
    have hlook := MapN.look (HMp.out.same (hbj.block _ HMl.out)) Try.underlying63 HWx.out HWy.out
    rw [HJn.out] at hlook
    clear hbj
    refine hK.out _ _ (HSof.out _ HBj.out) (fun _ => ?_)
    clear hK K
    refine wpAnyH_ready (rs := [17]) (by kernel_rfl) (by simp) ?_
    refine AllReadyH.cons rfl (fun K hK => ?_) AllReadyH.nil
    go_simp
    refine hK.out _ _ (HSof.out _ HBj.out) (fun _ => ?_)
    clear hK K
    refine wpAnyH_take (i := 18) (v := .bool false) rfl (by kernel_rfl) (by kernel_rfl) (by kernel_rfl) (fun _ _ _ h => h) (Or.inl ⟨by rfl, fun w' hSw => ?_⟩) (by assumption) ?_
    · have s1 := hSw.1
      clear s1
      go_simp
    simp only [Act.put, List.getElem_toArray, List.getElem_cons_zero, List.getElem_cons_succ, List.setIfInBounds_toArray, List.set_cons_zero, List.set_cons_succ]
    refine wpAnyH_take (i := 19) (v := .bool false) rfl (by kernel_rfl) (by kernel_rfl) (by kernel_rfl) (fun _ _ _ h => h) (Or.inl ⟨by rfl, fun w' hSw => ?_⟩) (by assumption) ?_
    · have s1 := hSw.1
      clear s1
      go_simp
    simp only [Act.put, List.getElem_toArray, List.getElem_cons_zero, List.getElem_cons_succ, List.setIfInBounds_toArray, List.set_cons_zero, List.set_cons_succ]
    refine wpAnyH_done (by kernel_rfl) ?_ _
    go_wp2_with fail
    go_meet
    exact ⟨rfl, HBj⟩
  case rest =>
  obtain ⟨rfl, hcb⟩ := hcut
  obtain ⟨w6, rfl⟩ : ∃ w6, w6 = wc := ⟨_, rfl⟩
  have hb6 := hcb.out
  clear hcb HSof
  have HB6 := hid (bfrom HB5.out hb6)
  have HG6 := hid (HG5.out.on hb6)
  have HH6 := hid (HH5.out.on hb6)
  have HK6 := hid (HK5.out.on hb6)
  clear hb6
  clear hx5 hy5 hl5 hu5 hv5 hw5 hkx5 hky5 hkl5 hfx5 hfy5
  have hx6 := HG6.out.box.1
  have hy6 := HG6.out.box.2
  have hl6 := HG6.out.lt
  have hu6 := HH6.out.box.1
  have hv6 := HH6.out.box.2
  have hw6 := HH6.out.lt
  have hkx6 := HK6.out.box.1
  have hky6 := HK6.out.box.2
  have hkl6 := HK6.out.lt
  have hfx6 := HK6.out.frozen 0
  have hfy6 := HK6.out.frozen 1
  go_wp2_with fail
  refine (iDot_any b off n c b2 o2 m d E F s t a b' x y (E : Int) (F : Int) es fs A B _ Hn.out (HR0.out.on HB6.out) Hn2.out (HR20.out.on HB6.out) G1.out G2.out hE hF rfl rfl Ha.out Hb.out hst Hx.out Hy.out HD.out.enA HD.out.enB HD.out.lenA HD.out.lenB HD.out.inA HD.out.inB HD.out.outA HD.out.outB).mono ?_
  rintro e' w9 ⟨gd, rfl, hgd, hod, hb9⟩
  have HB9 := hid (bfrom HB6.out hb9)
  have HK9 := hid (HK6.out.on hb9)
  have hzw := HB6.out.size
  have HOd := hid hod
  have hkl := HK6.out.lt
  clear hb9 hod hx6 hy6 hl6 hu6 hv6 hw6 hkx6 hky6 hkl6 hfx6 hfy6
  have hkx := HK9.out.box.1
  have hky := HK9.out.box.2
  have hfx := HK9.out.frozen 0
  have hfy := HK9.out.frozen 1
  have hlk := HK9.out.lt
  go_wp2_with fail
  refine bodyPost_ret (v := .tuple #[.agg #[.int .i64 (s + t - 2), .slice (some ⟨gd, 0, none⟩) (dotM s es E F fs a b' A B).length (dotM s es E F fs a b' A B).length], .int .i64 0]) (by simp [results, Try.results9, go_sem, hkx, hky]) rfl ⟨some ⟨gd, 0, none⟩, (dotM s es E F fs a b' A B).length, rfl, ?_, ?_⟩
  · have hne : gd ≠ w.heap.size + 1 + 1 := by omega
    exact FreshE.of_own (g := gd) ((HOd.out.far hne _).far hne _) (by rw [sortE_length]) (by omega)
  · have h := HB9.out
    go_grown

end Go.Proofs.Ytfdlhdgmbjdhbaa
