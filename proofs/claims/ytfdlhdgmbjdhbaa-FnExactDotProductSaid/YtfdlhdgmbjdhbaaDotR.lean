/- DotProduct in the model: the errors. -/
import Derived.Test.YtfdlhdgmbjdhbaaDotF
import Derived.Test.YtfdlhdgmbjdhbaaNearS
namespace Go.Proofs.Ytfdlhdgmbjdhbaa
open Go.RowKit Go.Lib

theorem verts_twoR (s : Int) (es : List (Int × Int)) (v u : Int) : vertsCode s es [v, u] = if IsG s es then (if (0 ≤ v ∧ v < s) ∧ (0 ≤ u ∧ u < s) then 0 else 2) else 1 := by
  unfold vertsCode
  by_cases h : IsG s es
  · rw [if_pos h, if_pos h]
    by_cases h2 : (0 ≤ v ∧ v < s) ∧ (0 ≤ u ∧ u < s)
    · rw [if_pos h2, if_pos (fun i hi => by
        rcases (by simp at hi; omega : i = 0 ∨ i = 1) with rfl | rfl
        · exact h2.1
        · exact h2.2)]
    · rw [if_neg h2, if_neg (fun k => h2 ⟨k 0 (by simp), k 1 (by simp)⟩)]
  · rw [if_neg h, if_neg h]

set_option maxRecDepth 100000 in
set_option maxHeartbeats 8000000 in
theorem sDp_g (s e f : Int) (p : Option Addr) (n c : Nat) (es : List (Int × Int)) (t a b' : Int) (q : Option Addr) (m d : Nat) (fs : List (Int × Int)) (w : World) (hm : n ≤ 1048576) (hn : es.length = n) (hr : SeesE w p es) (_hm2 : m ≤ 1048576) (hn2 : fs.length = m) (hr2 : SeesE w q fs) (g1 : ¬ IsG s es) :
    Calls Try.prog 7 #[.agg #[.int .i64 s, .slice p n c], .int .i64 e, .int .i64 f, .agg #[.int .i64 t, .slice q m d], .int .i64 a, .int .i64 b'] w fun e' w' => e' = .returned (.tuple #[.agg #[.int .i64 0, .slice none 0 0], .int .i64 1]) ∧ Below w.heap.size w w' := by
  have Hn := hid hn
  have Hr := hid hr
  have Hn2 := hid hn2
  have Hr2 := hid hr2
  have G1 := hid g1
  clear hn hr hn2 hr2 g1
  go_enter Try.func7, Try.ntmps7
  go_wp2_with fail
  refine (sIs_any _ _ _ _ es _ (by omega) Hn.out (Hr.out.on (bfrom (bfrom (on_alloc _ _) (on_alloc _ _)) (on_alloc _ _)))).mono ?_
  rw [decide_eq_false G1.out]
  rintro e' w2 ⟨rfl, hb2⟩
  have HB2 := hid (bfrom (w := w) (bfrom (bfrom (on_alloc _ _) (on_alloc _ _)) (on_alloc _ _)) hb2)
  have HG2 := hid ((((GBox.new w w.heap.size rfl : GBox _ _ s p n c).on (on_alloc _ _)).on (on_alloc _ _)).on hb2)
  have HH2 := hid ((((GBox.new _ (w.heap.size + 1) (by simp) : GBox _ _ t q m d)).on (on_alloc _ _)).on hb2)
  have HK2 := hid ((GBox.new _ (w.heap.size + 1 + 1) (by simp) : GBox _ _ 0 none 0 0).on hb2)
  clear hb2
  have hx2 := HG2.out.box.1
  have hy2 := HG2.out.box.2
  have hl2 := HG2.out.lt
  have hu2 := HH2.out.box.1
  have hv2 := HH2.out.box.2
  have hw2 := HH2.out.lt
  have hkx2 := HK2.out.box.1
  have hky2 := HK2.out.box.2
  have hkl2 := HK2.out.lt
  have hfx2 := HK2.out.frozen 0
  have hfy2 := HK2.out.frozen 1
  go_wp2_with fail
  refine bodyPost_ret (v := .tuple #[.agg #[.int .i64 0, .slice none 0 0], .int .i64 1]) (by simp [results, Try.results7, go_sem, hkx2, hky2]) rfl ⟨rfl, ?_⟩
  have h := HB2.out
  go_grown

set_option maxRecDepth 100000 in
set_option maxHeartbeats 8000000 in
theorem sDp_h (s e f : Int) (p : Option Addr) (n c : Nat) (es : List (Int × Int)) (t a b' : Int) (q : Option Addr) (m d : Nat) (fs : List (Int × Int)) (w : World) (hm : n ≤ 1048576) (hn : es.length = n) (hr : SeesE w p es) (hm2 : m ≤ 1048576) (hn2 : fs.length = m) (hr2 : SeesE w q fs) (g1 : IsG s es) (g2 : ¬ IsG t fs) :
    Calls Try.prog 7 #[.agg #[.int .i64 s, .slice p n c], .int .i64 e, .int .i64 f, .agg #[.int .i64 t, .slice q m d], .int .i64 a, .int .i64 b'] w fun e' w' => e' = .returned (.tuple #[.agg #[.int .i64 0, .slice none 0 0], .int .i64 1]) ∧ Below w.heap.size w w' := by
  have Hn := hid hn
  have Hr := hid hr
  have Hn2 := hid hn2
  have Hr2 := hid hr2
  have G1 := hid g1
  have G2 := hid g2
  clear hn hr hn2 hr2 g1 g2
  go_enter Try.func7, Try.ntmps7
  go_wp2_with fail
  refine (sIs_any _ _ _ _ es _ (by omega) Hn.out (Hr.out.on (bfrom (bfrom (on_alloc _ _) (on_alloc _ _)) (on_alloc _ _)))).mono ?_
  rw [decide_eq_true G1.out]
  rintro e' w2 ⟨rfl, hb2⟩
  have HB2 := hid (bfrom (w := w) (bfrom (bfrom (on_alloc _ _) (on_alloc _ _)) (on_alloc _ _)) hb2)
  have HG2 := hid ((((GBox.new w w.heap.size rfl : GBox _ _ s p n c).on (on_alloc _ _)).on (on_alloc _ _)).on hb2)
  have HH2 := hid ((((GBox.new _ (w.heap.size + 1) (by simp) : GBox _ _ t q m d)).on (on_alloc _ _)).on hb2)
  have HK2 := hid ((GBox.new _ (w.heap.size + 1 + 1) (by simp) : GBox _ _ 0 none 0 0).on hb2)
  clear hb2
  have hx2 := HG2.out.box.1
  have hy2 := HG2.out.box.2
  have hl2 := HG2.out.lt
  have hu2 := HH2.out.box.1
  have hv2 := HH2.out.box.2
  have hw2 := HH2.out.lt
  have hkx2 := HK2.out.box.1
  have hky2 := HK2.out.box.2
  have hkl2 := HK2.out.lt
  have hfx2 := HK2.out.frozen 0
  have hfy2 := HK2.out.frozen 1
  go_wp2_with fail
  refine (sIs_any _ _ _ _ fs _ (by omega) Hn2.out (Hr2.out.on HB2.out)).mono ?_
  rw [decide_eq_false G2.out]
  rintro e' w3 ⟨rfl, hb3⟩
  have HB3 := hid (bfrom HB2.out hb3)
  have HG3 := hid (HG2.out.on hb3)
  have HH3 := hid (HH2.out.on hb3)
  have HK3 := hid (HK2.out.on hb3)
  clear hb3
  clear hx2 hy2 hl2 hu2 hv2 hw2 hkx2 hky2 hkl2 hfx2 hfy2
  have hx3 := HG3.out.box.1
  have hy3 := HG3.out.box.2
  have hl3 := HG3.out.lt
  have hu3 := HH3.out.box.1
  have hv3 := HH3.out.box.2
  have hw3 := HH3.out.lt
  have hkx3 := HK3.out.box.1
  have hky3 := HK3.out.box.2
  have hkl3 := HK3.out.lt
  have hfx3 := HK3.out.frozen 0
  have hfy3 := HK3.out.frozen 1
  go_wp2_with fail
  refine bodyPost_ret (v := .tuple #[.agg #[.int .i64 0, .slice none 0 0], .int .i64 1]) (by simp [results, Try.results7, go_sem, hkx3, hky3]) rfl ⟨rfl, ?_⟩
  have h := HB3.out
  go_grown

set_option maxRecDepth 100000 in
set_option maxHeartbeats 8000000 in
theorem sDp_e (s e f : Int) (p : Option Addr) (n c : Nat) (es : List (Int × Int)) (t a b' : Int) (q : Option Addr) (m d : Nat) (fs : List (Int × Int)) (w : World) (hm : n ≤ 1048576) (hn : es.length = n) (hr : SeesE w p es) (hm2 : m ≤ 1048576) (hn2 : fs.length = m) (hr2 : SeesE w q fs) (g1 : IsG s es) (g2 : IsG t fs) (hef : ¬ ((0 ≤ e ∧ e < n) ∧ (0 ≤ f ∧ f < n))) :
    Calls Try.prog 7 #[.agg #[.int .i64 s, .slice p n c], .int .i64 e, .int .i64 f, .agg #[.int .i64 t, .slice q m d], .int .i64 a, .int .i64 b'] w fun e' w' => e' = .returned (.tuple #[.agg #[.int .i64 0, .slice none 0 0], .int .i64 2]) ∧ Below w.heap.size w w' := by
  have Q1 := hid (show edgsCode s es [e, f] = 2 by rw [edgs_twoF, if_pos g1, if_neg (by rw [hn]; intro h; exact hef ⟨⟨h.1, h.2.1⟩, h.2.2⟩)])
  clear hef
  have Hn := hid hn
  have Hr := hid hr
  have Hn2 := hid hn2
  have Hr2 := hid hr2
  have G1 := hid g1
  have G2 := hid g2
  clear hn hr hn2 hr2 g1 g2
  go_enter Try.func7, Try.ntmps7
  go_wp2_with fail
  refine (sIs_any _ _ _ _ es _ (by omega) Hn.out (Hr.out.on (bfrom (bfrom (on_alloc _ _) (on_alloc _ _)) (on_alloc _ _)))).mono ?_
  rw [decide_eq_true G1.out]
  rintro e' w2 ⟨rfl, hb2⟩
  have HB2 := hid (bfrom (w := w) (bfrom (bfrom (on_alloc _ _) (on_alloc _ _)) (on_alloc _ _)) hb2)
  have HG2 := hid ((((GBox.new w w.heap.size rfl : GBox _ _ s p n c).on (on_alloc _ _)).on (on_alloc _ _)).on hb2)
  have HH2 := hid ((((GBox.new _ (w.heap.size + 1) (by simp) : GBox _ _ t q m d)).on (on_alloc _ _)).on hb2)
  have HK2 := hid ((GBox.new _ (w.heap.size + 1 + 1) (by simp) : GBox _ _ 0 none 0 0).on hb2)
  clear hb2
  have hx2 := HG2.out.box.1
  have hy2 := HG2.out.box.2
  have hl2 := HG2.out.lt
  have hu2 := HH2.out.box.1
  have hv2 := HH2.out.box.2
  have hw2 := HH2.out.lt
  have hkx2 := HK2.out.box.1
  have hky2 := HK2.out.box.2
  have hkl2 := HK2.out.lt
  have hfx2 := HK2.out.frozen 0
  have hfy2 := HK2.out.frozen 1
  go_wp2_with fail
  refine (sIs_any _ _ _ _ fs _ (by omega) Hn2.out (Hr2.out.on HB2.out)).mono ?_
  rw [decide_eq_true G2.out]
  rintro e' w3 ⟨rfl, hb3⟩
  have HB3 := hid (bfrom HB2.out hb3)
  have HG3 := hid (HG2.out.on hb3)
  have HH3 := hid (HH2.out.on hb3)
  have HK3 := hid (HK2.out.on hb3)
  clear hb3
  clear hx2 hy2 hl2 hu2 hv2 hw2 hkx2 hky2 hkl2 hfx2 hfy2
  have hx3 := HG3.out.box.1
  have hy3 := HG3.out.box.2
  have hl3 := HG3.out.lt
  have hu3 := HH3.out.box.1
  have hv3 := HH3.out.box.2
  have hw3 := HH3.out.lt
  have hkx3 := HK3.out.box.1
  have hky3 := HK3.out.box.2
  have hkl3 := HK3.out.lt
  have hfx3 := HK3.out.frozen 0
  have hfy3 := HK3.out.frozen 1
  go_wp2_with fail
  refine (sEdg_any s _ _ _ w3.heap.size 0 2 2 es [e, f] _ (by omega) Hn.out (Hr.out.on (bfrom HB3.out (on_alloc _ _))) rfl (by omega) (reads_twoF _ _ _ _ _ rfl)).mono ?_
  rw [Q1.out]
  rintro e' w4 ⟨rfl, hb4⟩
  have HB4 := hid (bfrom (bfrom HB3.out (on_alloc _ _)) hb4)
  have HG4 := hid ((HG3.out.on (on_alloc _ _)).on hb4)
  have HH4 := hid ((HH3.out.on (on_alloc _ _)).on hb4)
  have HK4 := hid ((HK3.out.on (on_alloc _ _)).on hb4)
  clear hb4
  clear hx3 hy3 hl3 hu3 hv3 hw3 hkx3 hky3 hkl3 hfx3 hfy3
  have hx4 := HG4.out.box.1
  have hy4 := HG4.out.box.2
  have hl4 := HG4.out.lt
  have hu4 := HH4.out.box.1
  have hv4 := HH4.out.box.2
  have hw4 := HH4.out.lt
  have hkx4 := HK4.out.box.1
  have hky4 := HK4.out.box.2
  have hkl4 := HK4.out.lt
  have hfx4 := HK4.out.frozen 0
  have hfy4 := HK4.out.frozen 1
  go_wp2_with fail
  refine bodyPost_ret (v := .tuple #[.agg #[.int .i64 0, .slice none 0 0], .int .i64 2]) (by simp [results, Try.results7, go_sem, hkx4, hky4]) rfl ⟨rfl, ?_⟩
  have h := HB4.out
  go_grown

set_option maxRecDepth 100000 in
set_option maxHeartbeats 8000000 in
theorem sDp_v (s e f : Int) (p : Option Addr) (n c : Nat) (es : List (Int × Int)) (t a b' : Int) (q : Option Addr) (m d : Nat) (fs : List (Int × Int)) (w : World) (hm : n ≤ 1048576) (hn : es.length = n) (hr : SeesE w p es) (hm2 : m ≤ 1048576) (hn2 : fs.length = m) (hr2 : SeesE w q fs) (g1 : IsG s es) (g2 : IsG t fs) (hef : (0 ≤ e ∧ e < n) ∧ (0 ≤ f ∧ f < n)) (hab : ¬ ((0 ≤ a ∧ a < t) ∧ (0 ≤ b' ∧ b' < t))) :
    Calls Try.prog 7 #[.agg #[.int .i64 s, .slice p n c], .int .i64 e, .int .i64 f, .agg #[.int .i64 t, .slice q m d], .int .i64 a, .int .i64 b'] w fun e' w' => e' = .returned (.tuple #[.agg #[.int .i64 0, .slice none 0 0], .int .i64 2]) ∧ Below w.heap.size w w' := by
  have Q1 := hid (show edgsCode s es [e, f] = 0 by rw [edgs_twoF, if_pos g1, if_pos (by rw [hn]; exact ⟨hef.1.1, hef.1.2, hef.2.1, hef.2.2⟩)])
  have Q2 := hid (show vertsCode t fs [a, b'] = 2 by rw [verts_twoR, if_pos g2, if_neg hab])
  clear hef hab
  have Hn := hid hn
  have Hr := hid hr
  have Hn2 := hid hn2
  have Hr2 := hid hr2
  have G1 := hid g1
  have G2 := hid g2
  clear hn hr hn2 hr2 g1 g2
  go_enter Try.func7, Try.ntmps7
  go_wp2_with fail
  refine (sIs_any _ _ _ _ es _ (by omega) Hn.out (Hr.out.on (bfrom (bfrom (on_alloc _ _) (on_alloc _ _)) (on_alloc _ _)))).mono ?_
  rw [decide_eq_true G1.out]
  rintro e' w2 ⟨rfl, hb2⟩
  have HB2 := hid (bfrom (w := w) (bfrom (bfrom (on_alloc _ _) (on_alloc _ _)) (on_alloc _ _)) hb2)
  have HG2 := hid ((((GBox.new w w.heap.size rfl : GBox _ _ s p n c).on (on_alloc _ _)).on (on_alloc _ _)).on hb2)
  have HH2 := hid ((((GBox.new _ (w.heap.size + 1) (by simp) : GBox _ _ t q m d)).on (on_alloc _ _)).on hb2)
  have HK2 := hid ((GBox.new _ (w.heap.size + 1 + 1) (by simp) : GBox _ _ 0 none 0 0).on hb2)
  clear hb2
  have hx2 := HG2.out.box.1
  have hy2 := HG2.out.box.2
  have hl2 := HG2.out.lt
  have hu2 := HH2.out.box.1
  have hv2 := HH2.out.box.2
  have hw2 := HH2.out.lt
  have hkx2 := HK2.out.box.1
  have hky2 := HK2.out.box.2
  have hkl2 := HK2.out.lt
  have hfx2 := HK2.out.frozen 0
  have hfy2 := HK2.out.frozen 1
  go_wp2_with fail
  refine (sIs_any _ _ _ _ fs _ (by omega) Hn2.out (Hr2.out.on HB2.out)).mono ?_
  rw [decide_eq_true G2.out]
  rintro e' w3 ⟨rfl, hb3⟩
  have HB3 := hid (bfrom HB2.out hb3)
  have HG3 := hid (HG2.out.on hb3)
  have HH3 := hid (HH2.out.on hb3)
  have HK3 := hid (HK2.out.on hb3)
  clear hb3
  clear hx2 hy2 hl2 hu2 hv2 hw2 hkx2 hky2 hkl2 hfx2 hfy2
  have hx3 := HG3.out.box.1
  have hy3 := HG3.out.box.2
  have hl3 := HG3.out.lt
  have hu3 := HH3.out.box.1
  have hv3 := HH3.out.box.2
  have hw3 := HH3.out.lt
  have hkx3 := HK3.out.box.1
  have hky3 := HK3.out.box.2
  have hkl3 := HK3.out.lt
  have hfx3 := HK3.out.frozen 0
  have hfy3 := HK3.out.frozen 1
  go_wp2_with fail
  refine (sEdg_any s _ _ _ w3.heap.size 0 2 2 es [e, f] _ (by omega) Hn.out (Hr.out.on (bfrom HB3.out (on_alloc _ _))) rfl (by omega) (reads_twoF _ _ _ _ _ rfl)).mono ?_
  rw [Q1.out]
  rintro e' w4 ⟨rfl, hb4⟩
  have HB4 := hid (bfrom (bfrom HB3.out (on_alloc _ _)) hb4)
  have HG4 := hid ((HG3.out.on (on_alloc _ _)).on hb4)
  have HH4 := hid ((HH3.out.on (on_alloc _ _)).on hb4)
  have HK4 := hid ((HK3.out.on (on_alloc _ _)).on hb4)
  clear hb4
  clear hx3 hy3 hl3 hu3 hv3 hw3 hkx3 hky3 hkl3 hfx3 hfy3
  have hx4 := HG4.out.box.1
  have hy4 := HG4.out.box.2
  have hl4 := HG4.out.lt
  have hu4 := HH4.out.box.1
  have hv4 := HH4.out.box.2
  have hw4 := HH4.out.lt
  have hkx4 := HK4.out.box.1
  have hky4 := HK4.out.box.2
  have hkl4 := HK4.out.lt
  have hfx4 := HK4.out.frozen 0
  have hfy4 := HK4.out.frozen 1
  go_wp2_with fail
  refine (sVert6_any t _ _ _ w4.heap.size 0 2 2 fs [a, b'] _ (by omega) Hn2.out (Hr2.out.on (bfrom HB4.out (on_alloc _ _))) rfl (by omega) (reads_twoF _ _ _ _ _ rfl)).mono ?_
  rw [Q2.out]
  rintro e' w5 ⟨rfl, hb5⟩
  have HB5 := hid (bfrom (bfrom HB4.out (on_alloc _ _)) hb5)
  have HG5 := hid ((HG4.out.on (on_alloc _ _)).on hb5)
  have HH5 := hid ((HH4.out.on (on_alloc _ _)).on hb5)
  have HK5 := hid ((HK4.out.on (on_alloc _ _)).on hb5)
  clear hb5
  clear hx4 hy4 hl4 hu4 hv4 hw4 hkx4 hky4 hkl4 hfx4 hfy4
  have hx5 := HG5.out.box.1
  have hy5 := HG5.out.box.2
  have hl5 := HG5.out.lt
  have hu5 := HH5.out.box.1
  have hv5 := HH5.out.box.2
  have hw5 := HH5.out.lt
  have hkx5 := HK5.out.box.1
  have hky5 := HK5.out.box.2
  have hkl5 := HK5.out.lt
  have hfx5 := HK5.out.frozen 0
  have hfy5 := HK5.out.frozen 1
  go_wp2_with fail
  refine bodyPost_ret (v := .tuple #[.agg #[.int .i64 0, .slice none 0 0], .int .i64 2]) (by simp [results, Try.results7, go_sem, hkx5, hky5]) rfl ⟨rfl, ?_⟩
  have h := HB5.out
  go_grown

set_option maxRecDepth 100000 in
set_option maxHeartbeats 8000000 in
theorem sDp_eq (b off n c b2 o2 m d E F : Nat) (s t a b' : Int) (es fs : List (Int × Int)) (w : World) (hn : es.length = n) (hr0 : ReadsE w b off es) (hn2 : fs.length = m) (hr20 : ReadsE w b2 o2 fs) (g1 : IsG s es) (g2 : IsG t fs) (hE : E < n) (hF : F < n) (ha : 0 ≤ a ∧ a < t) (hb : 0 ≤ b' ∧ b' < t) (hEF : E = F) :
    Calls Try.prog 7 #[.agg #[.int .i64 s, .slice (some ⟨b, off, none⟩) n c], .int .i64 E, .int .i64 F, .agg #[.int .i64 t, .slice (some ⟨b2, o2, none⟩) m d], .int .i64 a, .int .i64 b'] w fun e' w' => e' = .returned (.tuple #[.agg #[.int .i64 0, .slice none 0 0], .int .i64 5]) ∧ Below w.heap.size w w' := by
  have hm : n ≤ 1048576 := by have := isG_len g1; omega
  have hm2 : m ≤ 1048576 := by have := isG_len g2; omega
  have hm30 : m ≤ 30 := by have := isG_len g2; omega
  have hn30 : n ≤ 30 := by have := isG_len g1; omega
  have h6 : 1 ≤ m := by have := g2.1.1; unfold okSize at this; omega
  have hr : SeesE w (some ⟨b, off, none⟩) es := .inr ⟨b, off, rfl, hr0⟩
  have hr2 : SeesE w (some ⟨b2, o2, none⟩) fs := .inr ⟨b2, o2, rfl, hr20⟩
  have HR0 := hid hr0
  have HR20 := hid hr20
  have HEn := hid hE
  have HFn := hid hF
  have Ha := hid ha
  have Hb := hid hb
  have hEn : (E : Int) < (n : Int) := by omega
  have hFn : (F : Int) < (n : Int) := by omega
  have Q1 := hid (show edgsCode s es [(E : Int), (F : Int)] = 0 by rw [edgs_twoF, if_pos g1, if_pos ⟨by omega, by omega, by omega, by omega⟩])
  have Q2 := hid (show vertsCode t fs [a, b'] = 0 by rw [verts_twoR, if_pos g2, if_pos ⟨ha, hb⟩])
  obtain ⟨C, hC⟩ : ∃ C : Nat, jcU fs (min a b') (max a b') m = C := ⟨_, rfl⟩
  have HJ := hid hC
  have t1 : ((E : Int) == (F : Int)) = true := by simp; omega
  have t1n : (E == F) = true := by simpa using hEF
  clear hEF hC
  have Hn := hid hn
  have Hr := hid hr
  have Hn2 := hid hn2
  have Hr2 := hid hr2
  have G1 := hid g1
  have G2 := hid g2
  clear hn hr hn2 hr2 g1 g2 hr0 hr20 ha hb
  go_enter Try.func7, Try.ntmps7
  go_wp2_with fail
  refine (sIs_any _ _ _ _ es _ (by omega) Hn.out (Hr.out.on (bfrom (bfrom (on_alloc _ _) (on_alloc _ _)) (on_alloc _ _)))).mono ?_
  rw [decide_eq_true G1.out]
  rintro e' w2 ⟨rfl, hb2⟩
  have HB2 := hid (bfrom (w := w) (bfrom (bfrom (on_alloc _ _) (on_alloc _ _)) (on_alloc _ _)) hb2)
  have HG2 := hid ((((GBox.new w w.heap.size rfl : GBox _ _ s (some ⟨b, off, none⟩) n c).on (on_alloc _ _)).on (on_alloc _ _)).on hb2)
  have HH2 := hid ((((GBox.new _ (w.heap.size + 1) (by simp) : GBox _ _ t (some ⟨b2, o2, none⟩) m d)).on (on_alloc _ _)).on hb2)
  have HK2 := hid ((GBox.new _ (w.heap.size + 1 + 1) (by simp) : GBox _ _ 0 none 0 0).on hb2)
  clear hb2
  have hx2 := HG2.out.box.1
  have hy2 := HG2.out.box.2
  have hl2 := HG2.out.lt
  have hu2 := HH2.out.box.1
  have hv2 := HH2.out.box.2
  have hw2 := HH2.out.lt
  have hkx2 := HK2.out.box.1
  have hky2 := HK2.out.box.2
  have hkl2 := HK2.out.lt
  have hfx2 := HK2.out.frozen 0
  have hfy2 := HK2.out.frozen 1
  go_wp2_with fail
  refine (sIs_any _ _ _ _ fs _ (by omega) Hn2.out (Hr2.out.on HB2.out)).mono ?_
  rw [decide_eq_true G2.out]
  rintro e' w3 ⟨rfl, hb3⟩
  have HB3 := hid (bfrom HB2.out hb3)
  have HG3 := hid (HG2.out.on hb3)
  have HH3 := hid (HH2.out.on hb3)
  have HK3 := hid (HK2.out.on hb3)
  clear hb3
  clear hx2 hy2 hl2 hu2 hv2 hw2 hkx2 hky2 hkl2 hfx2 hfy2
  have hx3 := HG3.out.box.1
  have hy3 := HG3.out.box.2
  have hl3 := HG3.out.lt
  have hu3 := HH3.out.box.1
  have hv3 := HH3.out.box.2
  have hw3 := HH3.out.lt
  have hkx3 := HK3.out.box.1
  have hky3 := HK3.out.box.2
  have hkl3 := HK3.out.lt
  have hfx3 := HK3.out.frozen 0
  have hfy3 := HK3.out.frozen 1
  go_wp2_with fail
  refine (sEdg_any s _ _ _ w3.heap.size 0 2 2 es [(E : Int), (F : Int)] _ (by omega) Hn.out (Hr.out.on (bfrom HB3.out (on_alloc _ _))) rfl (by omega) (reads_twoF _ _ _ _ _ rfl)).mono ?_
  rw [Q1.out]
  rintro e' w4 ⟨rfl, hb4⟩
  have HB4 := hid (bfrom (bfrom HB3.out (on_alloc _ _)) hb4)
  have HG4 := hid ((HG3.out.on (on_alloc _ _)).on hb4)
  have HH4 := hid ((HH3.out.on (on_alloc _ _)).on hb4)
  have HK4 := hid ((HK3.out.on (on_alloc _ _)).on hb4)
  clear hb4
  clear hx3 hy3 hl3 hu3 hv3 hw3 hkx3 hky3 hkl3 hfx3 hfy3
  have hx4 := HG4.out.box.1
  have hy4 := HG4.out.box.2
  have hl4 := HG4.out.lt
  have hu4 := HH4.out.box.1
  have hv4 := HH4.out.box.2
  have hw4 := HH4.out.lt
  have hkx4 := HK4.out.box.1
  have hky4 := HK4.out.box.2
  have hkl4 := HK4.out.lt
  have hfx4 := HK4.out.frozen 0
  have hfy4 := HK4.out.frozen 1
  go_wp2_with fail
  refine (sVert6_any t _ _ _ w4.heap.size 0 2 2 fs [a, b'] _ (by omega) Hn2.out (Hr2.out.on (bfrom HB4.out (on_alloc _ _))) rfl (by omega) (reads_twoF _ _ _ _ _ rfl)).mono ?_
  rw [Q2.out]
  rintro e' w5 ⟨rfl, hb5⟩
  have HB5 := hid (bfrom (bfrom HB4.out (on_alloc _ _)) hb5)
  have HG5 := hid ((HG4.out.on (on_alloc _ _)).on hb5)
  have HH5 := hid ((HH4.out.on (on_alloc _ _)).on hb5)
  have HK5 := hid ((HK4.out.on (on_alloc _ _)).on hb5)
  clear hb5
  clear hx4 hy4 hl4 hu4 hv4 hw4 hkx4 hky4 hkl4 hfx4 hfy4
  have hx5 := HG5.out.box.1
  have hy5 := HG5.out.box.2
  have hl5 := HG5.out.lt
  have hu5 := HH5.out.box.1
  have hv5 := HH5.out.box.2
  have hw5 := HH5.out.lt
  have hkx5 := HK5.out.box.1
  have hky5 := HK5.out.box.2
  have hkl5 := HK5.out.lt
  have hfx5 := HK5.out.frozen 0
  have hfy5 := HK5.out.frozen 1
  go_wp2_with fail
  refine (sJoined_any t a b' (min a b') (max a b') b2 o2 m d fs _ Hn2.out hm30 (HR20.out.on HB5.out) (reads_lt (HR20.out.on HB5.out) (by have := Hn2.out; omega)) rfl rfl).mono ?_
  rw [HJ.out]
  rintro e' w6 ⟨rfl, hb6⟩
  have HB6 := hid (bfrom HB5.out hb6)
  have HG6 := hid (HG5.out.on hb6)
  have HH6 := hid (HH5.out.on hb6)
  have HK6 := hid (HK5.out.on hb6)
  clear hb6
  clear hx5 hy5 hl5 hu5 hv5 hw5 hkx5 hky5 hkl5 hfx5 hfy5
  have hx6 := HG6.out.box.1
  have hy6 := HG6.out.box.2
  have hl6 := HG6.out.lt
  have hu6 := HH6.out.box.1
  have hv6 := HH6.out.box.2
  have hw6 := HH6.out.lt
  have hkx6 := HK6.out.box.1
  have hky6 := HK6.out.box.2
  have hkl6 := HK6.out.lt
  have hfx6 := HK6.out.frozen 0
  have hfy6 := HK6.out.frozen 1
  go_wp2_with fail
  refine bodyPost_ret (v := .tuple #[.agg #[.int .i64 0, .slice none 0 0], .int .i64 5]) (by simp [results, Try.results7, go_sem, hkx6, hky6]) rfl ⟨rfl, ?_⟩
  have h := HB6.out
  go_grown

set_option maxRecDepth 100000 in
set_option maxHeartbeats 8000000 in
theorem sDp_near (b off n c b2 o2 m d E F : Nat) (s t a b' : Int) (es fs : List (Int × Int)) (w : World) (hn : es.length = n) (hr0 : ReadsE w b off es) (hn2 : fs.length = m) (hr20 : ReadsE w b2 o2 fs) (g1 : IsG s es) (g2 : IsG t fs) (hE : E < n) (hF : F < n) (ha : 0 ≤ a ∧ a < t) (hb : 0 ≤ b' ∧ b' < t) (hEF : E ≠ F) (hnr : nearB es E F = true) :
    Calls Try.prog 7 #[.agg #[.int .i64 s, .slice (some ⟨b, off, none⟩) n c], .int .i64 E, .int .i64 F, .agg #[.int .i64 t, .slice (some ⟨b2, o2, none⟩) m d], .int .i64 a, .int .i64 b'] w fun e' w' => e' = .returned (.tuple #[.agg #[.int .i64 0, .slice none 0 0], .int .i64 5]) ∧ Below w.heap.size w w' := by
  have hm : n ≤ 1048576 := by have := isG_len g1; omega
  have hm2 : m ≤ 1048576 := by have := isG_len g2; omega
  have hm30 : m ≤ 30 := by have := isG_len g2; omega
  have hn30 : n ≤ 30 := by have := isG_len g1; omega
  have h6 : 1 ≤ m := by have := g2.1.1; unfold okSize at this; omega
  have hr : SeesE w (some ⟨b, off, none⟩) es := .inr ⟨b, off, rfl, hr0⟩
  have hr2 : SeesE w (some ⟨b2, o2, none⟩) fs := .inr ⟨b2, o2, rfl, hr20⟩
  have HR0 := hid hr0
  have HR20 := hid hr20
  have HEn := hid hE
  have HFn := hid hF
  have Ha := hid ha
  have Hb := hid hb
  have hEn : (E : Int) < (n : Int) := by omega
  have hFn : (F : Int) < (n : Int) := by omega
  have Q1 := hid (show edgsCode s es [(E : Int), (F : Int)] = 0 by rw [edgs_twoF, if_pos g1, if_pos ⟨by omega, by omega, by omega, by omega⟩])
  have Q2 := hid (show vertsCode t fs [a, b'] = 0 by rw [verts_twoR, if_pos g2, if_pos ⟨ha, hb⟩])
  obtain ⟨C, hC⟩ : ∃ C : Nat, jcU fs (min a b') (max a b') m = C := ⟨_, rfl⟩
  have HJ := hid hC
  have t1 : ((E : Int) == (F : Int)) = false := by simp; omega
  have t1n : (E == F) = false := by simpa using hEF
  have HNr := hid hnr
  clear hnr hC
  have Hn := hid hn
  have Hr := hid hr
  have Hn2 := hid hn2
  have Hr2 := hid hr2
  have G1 := hid g1
  have G2 := hid g2
  clear hn hr hn2 hr2 g1 g2 hr0 hr20 ha hb
  go_enter Try.func7, Try.ntmps7
  go_wp2_with fail
  refine (sIs_any _ _ _ _ es _ (by omega) Hn.out (Hr.out.on (bfrom (bfrom (on_alloc _ _) (on_alloc _ _)) (on_alloc _ _)))).mono ?_
  rw [decide_eq_true G1.out]
  rintro e' w2 ⟨rfl, hb2⟩
  have HB2 := hid (bfrom (w := w) (bfrom (bfrom (on_alloc _ _) (on_alloc _ _)) (on_alloc _ _)) hb2)
  have HG2 := hid ((((GBox.new w w.heap.size rfl : GBox _ _ s (some ⟨b, off, none⟩) n c).on (on_alloc _ _)).on (on_alloc _ _)).on hb2)
  have HH2 := hid ((((GBox.new _ (w.heap.size + 1) (by simp) : GBox _ _ t (some ⟨b2, o2, none⟩) m d)).on (on_alloc _ _)).on hb2)
  have HK2 := hid ((GBox.new _ (w.heap.size + 1 + 1) (by simp) : GBox _ _ 0 none 0 0).on hb2)
  clear hb2
  have hx2 := HG2.out.box.1
  have hy2 := HG2.out.box.2
  have hl2 := HG2.out.lt
  have hu2 := HH2.out.box.1
  have hv2 := HH2.out.box.2
  have hw2 := HH2.out.lt
  have hkx2 := HK2.out.box.1
  have hky2 := HK2.out.box.2
  have hkl2 := HK2.out.lt
  have hfx2 := HK2.out.frozen 0
  have hfy2 := HK2.out.frozen 1
  go_wp2_with fail
  refine (sIs_any _ _ _ _ fs _ (by omega) Hn2.out (Hr2.out.on HB2.out)).mono ?_
  rw [decide_eq_true G2.out]
  rintro e' w3 ⟨rfl, hb3⟩
  have HB3 := hid (bfrom HB2.out hb3)
  have HG3 := hid (HG2.out.on hb3)
  have HH3 := hid (HH2.out.on hb3)
  have HK3 := hid (HK2.out.on hb3)
  clear hb3
  clear hx2 hy2 hl2 hu2 hv2 hw2 hkx2 hky2 hkl2 hfx2 hfy2
  have hx3 := HG3.out.box.1
  have hy3 := HG3.out.box.2
  have hl3 := HG3.out.lt
  have hu3 := HH3.out.box.1
  have hv3 := HH3.out.box.2
  have hw3 := HH3.out.lt
  have hkx3 := HK3.out.box.1
  have hky3 := HK3.out.box.2
  have hkl3 := HK3.out.lt
  have hfx3 := HK3.out.frozen 0
  have hfy3 := HK3.out.frozen 1
  go_wp2_with fail
  refine (sEdg_any s _ _ _ w3.heap.size 0 2 2 es [(E : Int), (F : Int)] _ (by omega) Hn.out (Hr.out.on (bfrom HB3.out (on_alloc _ _))) rfl (by omega) (reads_twoF _ _ _ _ _ rfl)).mono ?_
  rw [Q1.out]
  rintro e' w4 ⟨rfl, hb4⟩
  have HB4 := hid (bfrom (bfrom HB3.out (on_alloc _ _)) hb4)
  have HG4 := hid ((HG3.out.on (on_alloc _ _)).on hb4)
  have HH4 := hid ((HH3.out.on (on_alloc _ _)).on hb4)
  have HK4 := hid ((HK3.out.on (on_alloc _ _)).on hb4)
  clear hb4
  clear hx3 hy3 hl3 hu3 hv3 hw3 hkx3 hky3 hkl3 hfx3 hfy3
  have hx4 := HG4.out.box.1
  have hy4 := HG4.out.box.2
  have hl4 := HG4.out.lt
  have hu4 := HH4.out.box.1
  have hv4 := HH4.out.box.2
  have hw4 := HH4.out.lt
  have hkx4 := HK4.out.box.1
  have hky4 := HK4.out.box.2
  have hkl4 := HK4.out.lt
  have hfx4 := HK4.out.frozen 0
  have hfy4 := HK4.out.frozen 1
  go_wp2_with fail
  refine (sVert6_any t _ _ _ w4.heap.size 0 2 2 fs [a, b'] _ (by omega) Hn2.out (Hr2.out.on (bfrom HB4.out (on_alloc _ _))) rfl (by omega) (reads_twoF _ _ _ _ _ rfl)).mono ?_
  rw [Q2.out]
  rintro e' w5 ⟨rfl, hb5⟩
  have HB5 := hid (bfrom (bfrom HB4.out (on_alloc _ _)) hb5)
  have HG5 := hid ((HG4.out.on (on_alloc _ _)).on hb5)
  have HH5 := hid ((HH4.out.on (on_alloc _ _)).on hb5)
  have HK5 := hid ((HK4.out.on (on_alloc _ _)).on hb5)
  clear hb5
  clear hx4 hy4 hl4 hu4 hv4 hw4 hkx4 hky4 hkl4 hfx4 hfy4
  have hx5 := HG5.out.box.1
  have hy5 := HG5.out.box.2
  have hl5 := HG5.out.lt
  have hu5 := HH5.out.box.1
  have hv5 := HH5.out.box.2
  have hw5 := HH5.out.lt
  have hkx5 := HK5.out.box.1
  have hky5 := HK5.out.box.2
  have hkl5 := HK5.out.lt
  have hfx5 := HK5.out.frozen 0
  have hfy5 := HK5.out.frozen 1
  go_wp2_with fail
  refine (sJoined_any t a b' (min a b') (max a b') b2 o2 m d fs _ Hn2.out hm30 (HR20.out.on HB5.out) (reads_lt (HR20.out.on HB5.out) (by have := Hn2.out; omega)) rfl rfl).mono ?_
  rw [HJ.out]
  rintro e' w6 ⟨rfl, hb6⟩
  have HB6 := hid (bfrom HB5.out hb6)
  have HG6 := hid (HG5.out.on hb6)
  have HH6 := hid (HH5.out.on hb6)
  have HK6 := hid (HK5.out.on hb6)
  clear hb6
  clear hx5 hy5 hl5 hu5 hv5 hw5 hkx5 hky5 hkl5 hfx5 hfy5
  have hx6 := HG6.out.box.1
  have hy6 := HG6.out.box.2
  have hl6 := HG6.out.lt
  have hu6 := HH6.out.box.1
  have hv6 := HH6.out.box.2
  have hw6 := HH6.out.lt
  have hkx6 := HK6.out.box.1
  have hky6 := HK6.out.box.2
  have hkl6 := HK6.out.lt
  have hfx6 := HK6.out.frozen 0
  have hfy6 := HK6.out.frozen 1
  go_wp2_with fail
  refine (sNear_any s b off n c E F es _ Hn.out hn30 (HR0.out.on HB6.out) hE hF).mono ?_
  rw [HNr.out]
  rintro e' w7 ⟨rfl, hb7⟩
  have HB7 := hid (bfrom HB6.out hb7)
  have HG7 := hid (HG6.out.on hb7)
  have HH7 := hid (HH6.out.on hb7)
  have HK7 := hid (HK6.out.on hb7)
  clear hb7
  clear hx6 hy6 hl6 hu6 hv6 hw6 hkx6 hky6 hkl6 hfx6 hfy6
  have hx7 := HG7.out.box.1
  have hy7 := HG7.out.box.2
  have hl7 := HG7.out.lt
  have hu7 := HH7.out.box.1
  have hv7 := HH7.out.box.2
  have hw7 := HH7.out.lt
  have hkx7 := HK7.out.box.1
  have hky7 := HK7.out.box.2
  have hkl7 := HK7.out.lt
  have hfx7 := HK7.out.frozen 0
  have hfy7 := HK7.out.frozen 1
  go_wp2_with fail
  refine bodyPost_ret (v := .tuple #[.agg #[.int .i64 0, .slice none 0 0], .int .i64 5]) (by simp [results, Try.results7, go_sem, hkx7, hky7]) rfl ⟨rfl, ?_⟩
  have h := HB7.out
  go_grown

set_option maxRecDepth 100000 in
set_option maxHeartbeats 8000000 in
theorem sDp_jc (b off n c b2 o2 m d E F : Nat) (s t a b' : Int) (es fs : List (Int × Int)) (w : World) (hn : es.length = n) (hr0 : ReadsE w b off es) (hn2 : fs.length = m) (hr20 : ReadsE w b2 o2 fs) (g1 : IsG s es) (g2 : IsG t fs) (hE : E < n) (hF : F < n) (ha : 0 ≤ a ∧ a < t) (hb : 0 ≤ b' ∧ b' < t) (hEF : E ≠ F) (hnr : nearB es E F = false) (hj : jcU fs (min a b') (max a b') m ≠ 1) :
    Calls Try.prog 7 #[.agg #[.int .i64 s, .slice (some ⟨b, off, none⟩) n c], .int .i64 E, .int .i64 F, .agg #[.int .i64 t, .slice (some ⟨b2, o2, none⟩) m d], .int .i64 a, .int .i64 b'] w fun e' w' => e' = .returned (.tuple #[.agg #[.int .i64 0, .slice none 0 0], .int .i64 5]) ∧ Below w.heap.size w w' := by
  have hm : n ≤ 1048576 := by have := isG_len g1; omega
  have hm2 : m ≤ 1048576 := by have := isG_len g2; omega
  have hm30 : m ≤ 30 := by have := isG_len g2; omega
  have hn30 : n ≤ 30 := by have := isG_len g1; omega
  have h6 : 1 ≤ m := by have := g2.1.1; unfold okSize at this; omega
  have hr : SeesE w (some ⟨b, off, none⟩) es := .inr ⟨b, off, rfl, hr0⟩
  have hr2 : SeesE w (some ⟨b2, o2, none⟩) fs := .inr ⟨b2, o2, rfl, hr20⟩
  have HR0 := hid hr0
  have HR20 := hid hr20
  have HEn := hid hE
  have HFn := hid hF
  have Ha := hid ha
  have Hb := hid hb
  have hEn : (E : Int) < (n : Int) := by omega
  have hFn : (F : Int) < (n : Int) := by omega
  have Q1 := hid (show edgsCode s es [(E : Int), (F : Int)] = 0 by rw [edgs_twoF, if_pos g1, if_pos ⟨by omega, by omega, by omega, by omega⟩])
  have Q2 := hid (show vertsCode t fs [a, b'] = 0 by rw [verts_twoR, if_pos g2, if_pos ⟨ha, hb⟩])
  obtain ⟨C, hC⟩ : ∃ C : Nat, jcU fs (min a b') (max a b') m = C := ⟨_, rfl⟩
  have HJ := hid hC
  have t1 : ((E : Int) == (F : Int)) = false := by simp; omega
  have t1n : (E == F) = false := by simpa using hEF
  have HNr := hid hnr
  rw [hC] at hj
  have t2 : ((C : Int) != 1) = true := by simp; omega
  clear hnr hC hj
  have Hn := hid hn
  have Hr := hid hr
  have Hn2 := hid hn2
  have Hr2 := hid hr2
  have G1 := hid g1
  have G2 := hid g2
  clear hn hr hn2 hr2 g1 g2 hr0 hr20 ha hb
  go_enter Try.func7, Try.ntmps7
  go_wp2_with fail
  refine (sIs_any _ _ _ _ es _ (by omega) Hn.out (Hr.out.on (bfrom (bfrom (on_alloc _ _) (on_alloc _ _)) (on_alloc _ _)))).mono ?_
  rw [decide_eq_true G1.out]
  rintro e' w2 ⟨rfl, hb2⟩
  have HB2 := hid (bfrom (w := w) (bfrom (bfrom (on_alloc _ _) (on_alloc _ _)) (on_alloc _ _)) hb2)
  have HG2 := hid ((((GBox.new w w.heap.size rfl : GBox _ _ s (some ⟨b, off, none⟩) n c).on (on_alloc _ _)).on (on_alloc _ _)).on hb2)
  have HH2 := hid ((((GBox.new _ (w.heap.size + 1) (by simp) : GBox _ _ t (some ⟨b2, o2, none⟩) m d)).on (on_alloc _ _)).on hb2)
  have HK2 := hid ((GBox.new _ (w.heap.size + 1 + 1) (by simp) : GBox _ _ 0 none 0 0).on hb2)
  clear hb2
  have hx2 := HG2.out.box.1
  have hy2 := HG2.out.box.2
  have hl2 := HG2.out.lt
  have hu2 := HH2.out.box.1
  have hv2 := HH2.out.box.2
  have hw2 := HH2.out.lt
  have hkx2 := HK2.out.box.1
  have hky2 := HK2.out.box.2
  have hkl2 := HK2.out.lt
  have hfx2 := HK2.out.frozen 0
  have hfy2 := HK2.out.frozen 1
  go_wp2_with fail
  refine (sIs_any _ _ _ _ fs _ (by omega) Hn2.out (Hr2.out.on HB2.out)).mono ?_
  rw [decide_eq_true G2.out]
  rintro e' w3 ⟨rfl, hb3⟩
  have HB3 := hid (bfrom HB2.out hb3)
  have HG3 := hid (HG2.out.on hb3)
  have HH3 := hid (HH2.out.on hb3)
  have HK3 := hid (HK2.out.on hb3)
  clear hb3
  clear hx2 hy2 hl2 hu2 hv2 hw2 hkx2 hky2 hkl2 hfx2 hfy2
  have hx3 := HG3.out.box.1
  have hy3 := HG3.out.box.2
  have hl3 := HG3.out.lt
  have hu3 := HH3.out.box.1
  have hv3 := HH3.out.box.2
  have hw3 := HH3.out.lt
  have hkx3 := HK3.out.box.1
  have hky3 := HK3.out.box.2
  have hkl3 := HK3.out.lt
  have hfx3 := HK3.out.frozen 0
  have hfy3 := HK3.out.frozen 1
  go_wp2_with fail
  refine (sEdg_any s _ _ _ w3.heap.size 0 2 2 es [(E : Int), (F : Int)] _ (by omega) Hn.out (Hr.out.on (bfrom HB3.out (on_alloc _ _))) rfl (by omega) (reads_twoF _ _ _ _ _ rfl)).mono ?_
  rw [Q1.out]
  rintro e' w4 ⟨rfl, hb4⟩
  have HB4 := hid (bfrom (bfrom HB3.out (on_alloc _ _)) hb4)
  have HG4 := hid ((HG3.out.on (on_alloc _ _)).on hb4)
  have HH4 := hid ((HH3.out.on (on_alloc _ _)).on hb4)
  have HK4 := hid ((HK3.out.on (on_alloc _ _)).on hb4)
  clear hb4
  clear hx3 hy3 hl3 hu3 hv3 hw3 hkx3 hky3 hkl3 hfx3 hfy3
  have hx4 := HG4.out.box.1
  have hy4 := HG4.out.box.2
  have hl4 := HG4.out.lt
  have hu4 := HH4.out.box.1
  have hv4 := HH4.out.box.2
  have hw4 := HH4.out.lt
  have hkx4 := HK4.out.box.1
  have hky4 := HK4.out.box.2
  have hkl4 := HK4.out.lt
  have hfx4 := HK4.out.frozen 0
  have hfy4 := HK4.out.frozen 1
  go_wp2_with fail
  refine (sVert6_any t _ _ _ w4.heap.size 0 2 2 fs [a, b'] _ (by omega) Hn2.out (Hr2.out.on (bfrom HB4.out (on_alloc _ _))) rfl (by omega) (reads_twoF _ _ _ _ _ rfl)).mono ?_
  rw [Q2.out]
  rintro e' w5 ⟨rfl, hb5⟩
  have HB5 := hid (bfrom (bfrom HB4.out (on_alloc _ _)) hb5)
  have HG5 := hid ((HG4.out.on (on_alloc _ _)).on hb5)
  have HH5 := hid ((HH4.out.on (on_alloc _ _)).on hb5)
  have HK5 := hid ((HK4.out.on (on_alloc _ _)).on hb5)
  clear hb5
  clear hx4 hy4 hl4 hu4 hv4 hw4 hkx4 hky4 hkl4 hfx4 hfy4
  have hx5 := HG5.out.box.1
  have hy5 := HG5.out.box.2
  have hl5 := HG5.out.lt
  have hu5 := HH5.out.box.1
  have hv5 := HH5.out.box.2
  have hw5 := HH5.out.lt
  have hkx5 := HK5.out.box.1
  have hky5 := HK5.out.box.2
  have hkl5 := HK5.out.lt
  have hfx5 := HK5.out.frozen 0
  have hfy5 := HK5.out.frozen 1
  go_wp2_with fail
  refine (sJoined_any t a b' (min a b') (max a b') b2 o2 m d fs _ Hn2.out hm30 (HR20.out.on HB5.out) (reads_lt (HR20.out.on HB5.out) (by have := Hn2.out; omega)) rfl rfl).mono ?_
  rw [HJ.out]
  rintro e' w6 ⟨rfl, hb6⟩
  have HB6 := hid (bfrom HB5.out hb6)
  have HG6 := hid (HG5.out.on hb6)
  have HH6 := hid (HH5.out.on hb6)
  have HK6 := hid (HK5.out.on hb6)
  clear hb6
  clear hx5 hy5 hl5 hu5 hv5 hw5 hkx5 hky5 hkl5 hfx5 hfy5
  have hx6 := HG6.out.box.1
  have hy6 := HG6.out.box.2
  have hl6 := HG6.out.lt
  have hu6 := HH6.out.box.1
  have hv6 := HH6.out.box.2
  have hw6 := HH6.out.lt
  have hkx6 := HK6.out.box.1
  have hky6 := HK6.out.box.2
  have hkl6 := HK6.out.lt
  have hfx6 := HK6.out.frozen 0
  have hfy6 := HK6.out.frozen 1
  go_wp2_with fail
  refine (sNear_any s b off n c E F es _ Hn.out hn30 (HR0.out.on HB6.out) hE hF).mono ?_
  rw [HNr.out]
  rintro e' w7 ⟨rfl, hb7⟩
  have HB7 := hid (bfrom HB6.out hb7)
  have HG7 := hid (HG6.out.on hb7)
  have HH7 := hid (HH6.out.on hb7)
  have HK7 := hid (HK6.out.on hb7)
  clear hb7
  clear hx6 hy6 hl6 hu6 hv6 hw6 hkx6 hky6 hkl6 hfx6 hfy6
  have hx7 := HG7.out.box.1
  have hy7 := HG7.out.box.2
  have hl7 := HG7.out.lt
  have hu7 := HH7.out.box.1
  have hv7 := HH7.out.box.2
  have hw7 := HH7.out.lt
  have hkx7 := HK7.out.box.1
  have hky7 := HK7.out.box.2
  have hkl7 := HK7.out.lt
  have hfx7 := HK7.out.frozen 0
  have hfy7 := HK7.out.frozen 1
  go_wp2_with fail
  refine bodyPost_ret (v := .tuple #[.agg #[.int .i64 0, .slice none 0 0], .int .i64 5]) (by simp [results, Try.results7, go_sem, hkx7, hky7]) rfl ⟨rfl, ?_⟩
  have h := HB7.out
  go_grown

set_option maxRecDepth 100000 in
set_option maxHeartbeats 8000000 in
theorem sDp_big (b off n c b2 o2 m d E F : Nat) (s t a b' : Int) (es fs : List (Int × Int)) (w : World) (hn : es.length = n) (hr0 : ReadsE w b off es) (hn2 : fs.length = m) (hr20 : ReadsE w b2 o2 fs) (g1 : IsG s es) (g2 : IsG t fs) (hE : E < n) (hF : F < n) (ha : 0 ≤ a ∧ a < t) (hb : 0 ≤ b' ∧ b' < t) (hEF : E ≠ F) (hnr : nearB es E F = false) (hj : jcU fs (min a b') (max a b') m = 1) (h22 : 22 < s + t) :
    Calls Try.prog 7 #[.agg #[.int .i64 s, .slice (some ⟨b, off, none⟩) n c], .int .i64 E, .int .i64 F, .agg #[.int .i64 t, .slice (some ⟨b2, o2, none⟩) m d], .int .i64 a, .int .i64 b'] w fun e' w' => e' = .returned (.tuple #[.agg #[.int .i64 0, .slice none 0 0], .int .i64 3]) ∧ Below w.heap.size w w' := by
  have hm : n ≤ 1048576 := by have := isG_len g1; omega
  have hm2 : m ≤ 1048576 := by have := isG_len g2; omega
  have hm30 : m ≤ 30 := by have := isG_len g2; omega
  have hn30 : n ≤ 30 := by have := isG_len g1; omega
  have h6 : 1 ≤ m := by have := g2.1.1; unfold okSize at this; omega
  have hr : SeesE w (some ⟨b, off, none⟩) es := .inr ⟨b, off, rfl, hr0⟩
  have hr2 : SeesE w (some ⟨b2, o2, none⟩) fs := .inr ⟨b2, o2, rfl, hr20⟩
  have HR0 := hid hr0
  have HR20 := hid hr20
  have HEn := hid hE
  have HFn := hid hF
  have Ha := hid ha
  have Hb := hid hb
  have hEn : (E : Int) < (n : Int) := by omega
  have hFn : (F : Int) < (n : Int) := by omega
  have Q1 := hid (show edgsCode s es [(E : Int), (F : Int)] = 0 by rw [edgs_twoF, if_pos g1, if_pos ⟨by omega, by omega, by omega, by omega⟩])
  have Q2 := hid (show vertsCode t fs [a, b'] = 0 by rw [verts_twoR, if_pos g2, if_pos ⟨ha, hb⟩])
  have HJ := hid hj
  have t1 : ((E : Int) == (F : Int)) = false := by simp; omega
  have t1n : (E == F) = false := by simpa using hEF
  have HNr := hid hnr
  have h3 : decide (20 < s + t - 2) = true := decide_eq_true (by omega)
  have e1 : IntKind.i64.wrap (s + t) = s + t := IntWalk.i64_in _ (by have h := g1.1.1; have h' := g2.1.1; unfold okSize at h h'; omega)
  have e2 : IntKind.i64.wrap (s + t - 2) = s + t - 2 := IntWalk.i64_in _ (by have h := g1.1.1; have h' := g2.1.1; unfold okSize at h h'; omega)
  clear hnr hj
  have Hn := hid hn
  have Hr := hid hr
  have Hn2 := hid hn2
  have Hr2 := hid hr2
  have G1 := hid g1
  have G2 := hid g2
  clear hn hr hn2 hr2 g1 g2 hr0 hr20 ha hb
  go_enter Try.func7, Try.ntmps7
  go_wp2_with fail
  refine (sIs_any _ _ _ _ es _ (by omega) Hn.out (Hr.out.on (bfrom (bfrom (on_alloc _ _) (on_alloc _ _)) (on_alloc _ _)))).mono ?_
  rw [decide_eq_true G1.out]
  rintro e' w2 ⟨rfl, hb2⟩
  have HB2 := hid (bfrom (w := w) (bfrom (bfrom (on_alloc _ _) (on_alloc _ _)) (on_alloc _ _)) hb2)
  have HG2 := hid ((((GBox.new w w.heap.size rfl : GBox _ _ s (some ⟨b, off, none⟩) n c).on (on_alloc _ _)).on (on_alloc _ _)).on hb2)
  have HH2 := hid ((((GBox.new _ (w.heap.size + 1) (by simp) : GBox _ _ t (some ⟨b2, o2, none⟩) m d)).on (on_alloc _ _)).on hb2)
  have HK2 := hid ((GBox.new _ (w.heap.size + 1 + 1) (by simp) : GBox _ _ 0 none 0 0).on hb2)
  clear hb2
  have hx2 := HG2.out.box.1
  have hy2 := HG2.out.box.2
  have hl2 := HG2.out.lt
  have hu2 := HH2.out.box.1
  have hv2 := HH2.out.box.2
  have hw2 := HH2.out.lt
  have hkx2 := HK2.out.box.1
  have hky2 := HK2.out.box.2
  have hkl2 := HK2.out.lt
  have hfx2 := HK2.out.frozen 0
  have hfy2 := HK2.out.frozen 1
  go_wp2_with fail
  refine (sIs_any _ _ _ _ fs _ (by omega) Hn2.out (Hr2.out.on HB2.out)).mono ?_
  rw [decide_eq_true G2.out]
  rintro e' w3 ⟨rfl, hb3⟩
  have HB3 := hid (bfrom HB2.out hb3)
  have HG3 := hid (HG2.out.on hb3)
  have HH3 := hid (HH2.out.on hb3)
  have HK3 := hid (HK2.out.on hb3)
  clear hb3
  clear hx2 hy2 hl2 hu2 hv2 hw2 hkx2 hky2 hkl2 hfx2 hfy2
  have hx3 := HG3.out.box.1
  have hy3 := HG3.out.box.2
  have hl3 := HG3.out.lt
  have hu3 := HH3.out.box.1
  have hv3 := HH3.out.box.2
  have hw3 := HH3.out.lt
  have hkx3 := HK3.out.box.1
  have hky3 := HK3.out.box.2
  have hkl3 := HK3.out.lt
  have hfx3 := HK3.out.frozen 0
  have hfy3 := HK3.out.frozen 1
  go_wp2_with fail
  refine (sEdg_any s _ _ _ w3.heap.size 0 2 2 es [(E : Int), (F : Int)] _ (by omega) Hn.out (Hr.out.on (bfrom HB3.out (on_alloc _ _))) rfl (by omega) (reads_twoF _ _ _ _ _ rfl)).mono ?_
  rw [Q1.out]
  rintro e' w4 ⟨rfl, hb4⟩
  have HB4 := hid (bfrom (bfrom HB3.out (on_alloc _ _)) hb4)
  have HG4 := hid ((HG3.out.on (on_alloc _ _)).on hb4)
  have HH4 := hid ((HH3.out.on (on_alloc _ _)).on hb4)
  have HK4 := hid ((HK3.out.on (on_alloc _ _)).on hb4)
  clear hb4
  clear hx3 hy3 hl3 hu3 hv3 hw3 hkx3 hky3 hkl3 hfx3 hfy3
  have hx4 := HG4.out.box.1
  have hy4 := HG4.out.box.2
  have hl4 := HG4.out.lt
  have hu4 := HH4.out.box.1
  have hv4 := HH4.out.box.2
  have hw4 := HH4.out.lt
  have hkx4 := HK4.out.box.1
  have hky4 := HK4.out.box.2
  have hkl4 := HK4.out.lt
  have hfx4 := HK4.out.frozen 0
  have hfy4 := HK4.out.frozen 1
  go_wp2_with fail
  refine (sVert6_any t _ _ _ w4.heap.size 0 2 2 fs [a, b'] _ (by omega) Hn2.out (Hr2.out.on (bfrom HB4.out (on_alloc _ _))) rfl (by omega) (reads_twoF _ _ _ _ _ rfl)).mono ?_
  rw [Q2.out]
  rintro e' w5 ⟨rfl, hb5⟩
  have HB5 := hid (bfrom (bfrom HB4.out (on_alloc _ _)) hb5)
  have HG5 := hid ((HG4.out.on (on_alloc _ _)).on hb5)
  have HH5 := hid ((HH4.out.on (on_alloc _ _)).on hb5)
  have HK5 := hid ((HK4.out.on (on_alloc _ _)).on hb5)
  clear hb5
  clear hx4 hy4 hl4 hu4 hv4 hw4 hkx4 hky4 hkl4 hfx4 hfy4
  have hx5 := HG5.out.box.1
  have hy5 := HG5.out.box.2
  have hl5 := HG5.out.lt
  have hu5 := HH5.out.box.1
  have hv5 := HH5.out.box.2
  have hw5 := HH5.out.lt
  have hkx5 := HK5.out.box.1
  have hky5 := HK5.out.box.2
  have hkl5 := HK5.out.lt
  have hfx5 := HK5.out.frozen 0
  have hfy5 := HK5.out.frozen 1
  go_wp2_with fail
  refine (sJoined_any t a b' (min a b') (max a b') b2 o2 m d fs _ Hn2.out hm30 (HR20.out.on HB5.out) (reads_lt (HR20.out.on HB5.out) (by have := Hn2.out; omega)) rfl rfl).mono ?_
  rw [HJ.out]
  rintro e' w6 ⟨rfl, hb6⟩
  have HB6 := hid (bfrom HB5.out hb6)
  have HG6 := hid (HG5.out.on hb6)
  have HH6 := hid (HH5.out.on hb6)
  have HK6 := hid (HK5.out.on hb6)
  clear hb6
  clear hx5 hy5 hl5 hu5 hv5 hw5 hkx5 hky5 hkl5 hfx5 hfy5
  have hx6 := HG6.out.box.1
  have hy6 := HG6.out.box.2
  have hl6 := HG6.out.lt
  have hu6 := HH6.out.box.1
  have hv6 := HH6.out.box.2
  have hw6 := HH6.out.lt
  have hkx6 := HK6.out.box.1
  have hky6 := HK6.out.box.2
  have hkl6 := HK6.out.lt
  have hfx6 := HK6.out.frozen 0
  have hfy6 := HK6.out.frozen 1
  go_wp2_with fail
  refine (sNear_any s b off n c E F es _ Hn.out hn30 (HR0.out.on HB6.out) hE hF).mono ?_
  rw [HNr.out]
  rintro e' w7 ⟨rfl, hb7⟩
  have HB7 := hid (bfrom HB6.out hb7)
  have HG7 := hid (HG6.out.on hb7)
  have HH7 := hid (HH6.out.on hb7)
  have HK7 := hid (HK6.out.on hb7)
  clear hb7
  clear hx6 hy6 hl6 hu6 hv6 hw6 hkx6 hky6 hkl6 hfx6 hfy6
  have hx7 := HG7.out.box.1
  have hy7 := HG7.out.box.2
  have hl7 := HG7.out.lt
  have hu7 := HH7.out.box.1
  have hv7 := HH7.out.box.2
  have hw7 := HH7.out.lt
  have hkx7 := HK7.out.box.1
  have hky7 := HK7.out.box.2
  have hkl7 := HK7.out.lt
  have hfx7 := HK7.out.frozen 0
  have hfy7 := HK7.out.frozen 1
  go_wp2_with fail
  refine bodyPost_ret (v := .tuple #[.agg #[.int .i64 0, .slice none 0 0], .int .i64 3]) (by simp [results, Try.results7, go_sem, hkx7, hky7]) rfl ⟨rfl, ?_⟩
  have h := HB7.out
  go_grown

end Go.Proofs.Ytfdlhdgmbjdhbaa
