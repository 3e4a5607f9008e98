/- The law on DotProduct, walked out of the contracts: it returns true, whatever lies in memory. -/
import Derived.Test.YtfdlhdgmbjdhbaaDotC
import Derived.Test.YtfdlhdgmbjdhbaaDotR
import Derived.Test.YtfdlhdgmbjdhbaaDotI
import Derived.Deep.RegionHeld3
import Derived.Test.YtfdlhdgmbjdhbaaLawsF
import Derived.Deep.RegionWith
import Derived.Deep.DeepCutAuto

/- DotProduct at any arguments, both sides. -/
namespace Go.Proofs.Ytfdlhdgmbjdhbaa
open Go.RowKit

theorem dotM_few (s : Int) {t : Int} (es : List (Int × Int)) (e f : Nat) (fs : List (Int × Int)) (a b : Int) (A B : List Int) (g1 : IsG s es) (g2 : IsG t fs) : (dotM s es e f fs a b A B).length ≤ 64 := by
  unfold dotM restE
  rw [List.length_append, List.length_append, List.length_append]
  have h1 := restU_len es [(e : Int), (f : Int)] es.length
  have h2 := mdU_len s fs [a, b] fs.length
  have h3 := isG_len g1
  have h4 := isG_len g2
  simp
  omega
def fDotProduct (s : Int) (es : List (Int × Int)) (e f : Int) (t : Int) (fs : List (Int × Int)) (a b : Int) : Int × List (Int × Int) × Int :=
  if IsG s es ∧ IsG t fs then (if ((0 ≤ e ∧ e < (es.length : Int)) ∧ (0 ≤ f ∧ f < (es.length : Int))) ∧ ((0 ≤ a ∧ a < t) ∧ (0 ≤ b ∧ b < t)) then (if nearB es e.toNat f.toNat = true ∨ jcU fs (min a b) (max a b) fs.length ≠ 1 then (0, [], 5) else (if 22 < s + t then (0, [], 3) else (s + t - 2, sortE (dotM s es e.toNat f.toNat fs a b (exU fs a (jfU fs (min a b) (max a b) fs.length) 3) (exU fs b (jfU fs (min a b) (max a b) fs.length) 3)), 0))) else (0, [], 2)) else (0, [], 1)
theorem fDotProduct_len (s : Int) (es : List (Int × Int)) (e f : Int) (t : Int) (fs : List (Int × Int)) (a b : Int) (_ : es.length ≤ 1048576) (_ : fs.length ≤ 1048576) : (fDotProduct s es e f t fs a b).2.1.length ≤ 1048576 := by
  unfold fDotProduct
  split
  · rename_i g
    split
    · split
      · exact Nat.zero_le _
      · split
        · exact Nat.zero_le _
        · show (sortE (dotM s es e.toNat f.toNat fs a b _ _)).length ≤ _
          rw [sortE_length]
          exact Nat.le_trans (dotM_few s es e.toNat f.toNat fs a b _ _ g.1 g.2) (by omega)
    · exact Nat.zero_le _
  · exact Nat.zero_le _

theorem sDotProduct_any (s : Int) (p : Option Addr) (n c : Nat) (es : List (Int × Int)) (e f : Int) (t : Int) (q : Option Addr) (m d : Nat) (fs : List (Int × Int)) (a b' : Int) (w : World) (hm : n ≤ 1048576) (hn : es.length = n) (hr : SeesE w p es) (hm2 : m ≤ 1048576) (hn2 : fs.length = m) (hr2 : SeesE w q fs) :
    Calls Try.prog 7 #[.agg #[.int .i64 s, .slice p n c], .int .i64 e, .int .i64 f, .agg #[.int .i64 t, .slice q m d], .int .i64 a, .int .i64 b'] w fun e' w' => ∃ q0 cap, e' = .returned (.tuple #[.agg #[.int .i64 (fDotProduct s es e f t fs a b').1, .slice q0 (fDotProduct s es e f t fs a b').2.1.length cap], .int .i64 (fDotProduct s es e f t fs a b').2.2]) ∧ FreshE w.heap.size w' q0 (fDotProduct s es e f t fs a b').2.1.length cap (fDotProduct s es e f t fs a b').2.1 ∧ Below w.heap.size w w' := by
  unfold fDotProduct
  by_cases g1 : IsG s es
  · by_cases g2 : IsG t fs
    · rw [if_pos ⟨g1, g2⟩]
      by_cases hef : (0 ≤ e ∧ e < (n : Int)) ∧ (0 ≤ f ∧ f < (n : Int))
      · by_cases hab : (0 ≤ a ∧ a < t) ∧ (0 ≤ b' ∧ b' < t)
        · rw [if_pos ⟨by rw [hn]; exact hef, hab⟩]
          obtain ⟨b, off, rfl, rd⟩ := isG_sees g1 hr
          obtain ⟨b2, o2, rfl, rd2⟩ := isG_sees g2 hr2
          obtain ⟨E, rfl⟩ : ∃ E : Nat, e = E := ⟨_, (Int.toNat_of_nonneg hef.1.1).symm⟩
          obtain ⟨F, rfl⟩ : ∃ F : Nat, f = F := ⟨_, (Int.toNat_of_nonneg hef.2.1).symm⟩
          rw [Int.toNat_natCast, Int.toNat_natCast]
          have hE : E < n := by omega
          have hF : F < n := by omega
          by_cases hnr : nearB es E F = true
          · rw [if_pos (.inl hnr)]
            by_cases hEF : E = F
            · exact (sDp_eq b off n c b2 o2 m d E F s t a b' es fs w hn rd hn2 rd2 g1 g2 hE hF hab.1 hab.2 hEF).mono fun e' w' ⟨he, hb⟩ => ⟨none, 0, he, FreshE.nil _ _, hb⟩
            · exact (sDp_near b off n c b2 o2 m d E F s t a b' es fs w hn rd hn2 rd2 g1 g2 hE hF hab.1 hab.2 hEF hnr).mono fun e' w' ⟨he, hb⟩ => ⟨none, 0, he, FreshE.nil _ _, hb⟩
          · rw [Bool.not_eq_true] at hnr
            have hEF : E ≠ F := fun h => by rw [h, nearB_self] at hnr; cases hnr
            by_cases hj : jcU fs (min a b') (max a b') m = 1
            · rw [if_neg (by rw [hnr, hn2]; rintro (h | h); cases h; exact h hj)]
              by_cases h3 : 22 < s + t
              · rw [if_pos h3]
                exact (sDp_big b off n c b2 o2 m d E F s t a b' es fs w hn rd hn2 rd2 g1 g2 hE hF hab.1 hab.2 hEF hnr hj h3).mono fun e' w' ⟨he, hb⟩ => ⟨none, 0, he, FreshE.nil _ _, hb⟩
              · rw [if_neg h3]
                obtain ⟨A, B, j, hD⟩ := dot_facts g2 hab.1 hab.2 rfl rfl (by rw [hn2]; exact hj)
                dsimp only
                rw [sortE_length, hD.fst, hD.exA, hD.exB]
                exact sDot_yes b off n c b2 o2 m d E F j s t a b' _ _ es fs A B w hn rd hn2 rd2 g1 g2 hE hF hEF hnr hab.1 hab.2 (by omega) rfl rfl hD
            · rw [if_pos (.inr (by rw [hn2]; exact hj))]
              exact (sDp_jc b off n c b2 o2 m d E F s t a b' es fs w hn rd hn2 rd2 g1 g2 hE hF hab.1 hab.2 hEF hnr hj).mono fun e' w' ⟨he, hb⟩ => ⟨none, 0, he, FreshE.nil _ _, hb⟩
        · rw [if_neg (fun h => hab h.2)]
          exact (sDp_v s e f p n c es t a b' q m d fs w hm hn hr hm2 hn2 hr2 g1 g2 hef hab).mono fun e' w' ⟨he, hb⟩ => ⟨none, 0, he, FreshE.nil _ _, hb⟩
      · rw [if_neg (fun h => hef (by rw [← hn]; exact h.1))]
        exact (sDp_e s e f p n c es t a b' q m d fs w hm hn hr hm2 hn2 hr2 g1 g2 hef).mono fun e' w' ⟨he, hb⟩ => ⟨none, 0, he, FreshE.nil _ _, hb⟩
    · rw [if_neg (fun h => g2 h.2)]
      exact (sDp_h s e f p n c es t a b' q m d fs w hm hn hr hm2 hn2 hr2 g1 g2).mono fun e' w' ⟨he, hb⟩ => ⟨none, 0, he, FreshE.nil _ _, hb⟩
  · rw [if_neg (fun h => g1 h.1)]
    exact (sDp_g s e f p n c es t a b' q m d fs w hm hn hr hm2 hn2 hr2 g1).mono fun e' w' ⟨he, hb⟩ => ⟨none, 0, he, FreshE.nil _ _, hb⟩

theorem iDotProduct_any (s : Int) (p : Option Addr) (n c : Nat) (es : List (Int × Int)) (e f : Int) (t : Int) (q : Option Addr) (m d : Nat) (fs : List (Int × Int)) (a b' : Int) (w : World) (hm : n ≤ 1048576) (hn : es.length = n) (hr : SeesE w p es) (hm2 : m ≤ 1048576) (hn2 : fs.length = m) (hr2 : SeesE w q fs) :
    Calls Try.prog 9 #[.agg #[.int .i64 s, .slice p n c], .int .i64 e, .int .i64 f, .agg #[.int .i64 t, .slice q m d], .int .i64 a, .int .i64 b'] w fun e' w' => ∃ q0 cap, e' = .returned (.tuple #[.agg #[.int .i64 (fDotProduct s es e f t fs a b').1, .slice q0 (fDotProduct s es e f t fs a b').2.1.length cap], .int .i64 (fDotProduct s es e f t fs a b').2.2]) ∧ FreshE w.heap.size w' q0 (fDotProduct s es e f t fs a b').2.1.length cap (fDotProduct s es e f t fs a b').2.1 ∧ Below w.heap.size w w' := by
  unfold fDotProduct
  by_cases g1 : IsG s es
  · by_cases g2 : IsG t fs
    · rw [if_pos ⟨g1, g2⟩]
      by_cases hef : (0 ≤ e ∧ e < (n : Int)) ∧ (0 ≤ f ∧ f < (n : Int))
      · by_cases hab : (0 ≤ a ∧ a < t) ∧ (0 ≤ b' ∧ b' < t)
        · rw [if_pos ⟨by rw [hn]; exact hef, hab⟩]
          obtain ⟨b, off, rfl, rd⟩ := isG_sees g1 hr
          obtain ⟨b2, o2, rfl, rd2⟩ := isG_sees g2 hr2
          obtain ⟨E, rfl⟩ : ∃ E : Nat, e = E := ⟨_, (Int.toNat_of_nonneg hef.1.1).symm⟩
          obtain ⟨F, rfl⟩ : ∃ F : Nat, f = F := ⟨_, (Int.toNat_of_nonneg hef.2.1).symm⟩
          rw [Int.toNat_natCast, Int.toNat_natCast]
          have hE : E < n := by omega
          have hF : F < n := by omega
          by_cases hnr : nearB es E F = true
          · rw [if_pos (.inl hnr)]
            exact (iDp_near b off n c b2 o2 m d E F s t a b' es fs w hn rd hn2 rd2 g1 g2 hE hF hab.1 hab.2 hnr).mono fun e' w' ⟨he, hb⟩ => ⟨none, 0, he, FreshE.nil _ _, hb⟩
          · rw [Bool.not_eq_true] at hnr
            by_cases hj : jcU fs (min a b') (max a b') m = 1
            · rw [if_neg (by rw [hnr, hn2]; rintro (h | h); cases h; exact h hj)]
              by_cases h3 : 22 < s + t
              · rw [if_pos h3]
                exact (iDp_big b off n c b2 o2 m d E F s t a b' es fs w hn rd hn2 rd2 g1 g2 hE hF hab.1 hab.2 hnr hj h3).mono fun e' w' ⟨he, hb⟩ => ⟨none, 0, he, FreshE.nil _ _, hb⟩
              · rw [if_neg h3]
                obtain ⟨A, B, j, hD⟩ := dot_facts g2 hab.1 hab.2 rfl rfl (by rw [hn2]; exact hj)
                dsimp only
                rw [sortE_length, hD.fst, hD.exA, hD.exB]
                exact iDp_yes b off n c b2 o2 m d E F s t a b' es fs w hn rd hn2 rd2 g1 g2 hE hF hab.1 hab.2 _ _ A B j hnr (by omega) rfl rfl hD
            · rw [if_pos (.inr (by rw [hn2]; exact hj))]
              exact (iDp_jc b off n c b2 o2 m d E F s t a b' es fs w hn rd hn2 rd2 g1 g2 hE hF hab.1 hab.2 hnr hj).mono fun e' w' ⟨he, hb⟩ => ⟨none, 0, he, FreshE.nil _ _, hb⟩
        · rw [if_neg (fun h => hab h.2)]
          exact (iDp_v s e f p n c es t a b' q m d fs w hm hn hr hm2 hn2 hr2 g1 g2 hef hab).mono fun e' w' ⟨he, hb⟩ => ⟨none, 0, he, FreshE.nil _ _, hb⟩
      · rw [if_neg (fun h => hef (by rw [← hn]; exact h.1))]
        exact (iDp_e s e f p n c es t a b' q m d fs w hm hn hr hm2 hn2 hr2 g1 g2 hef).mono fun e' w' ⟨he, hb⟩ => ⟨none, 0, he, FreshE.nil _ _, hb⟩
    · rw [if_neg (fun h => g2 h.2)]
      exact (iDp_h s e f p n c es t a b' q m d fs w hm hn hr hm2 hn2 hr2 g1 g2).mono fun e' w' ⟨he, hb⟩ => ⟨none, 0, he, FreshE.nil _ _, hb⟩
  · rw [if_neg (fun h => g1 h.1)]
    exact (iDp_g s e f p n c es t a b' q m d fs w hm hn hr hm2 hn2 hr2 g1).mono fun e' w' ⟨he, hb⟩ => ⟨none, 0, he, FreshE.nil _ _, hb⟩

end Go.Proofs.Ytfdlhdgmbjdhbaa

namespace Go.Proofs.Ytfdlhdgmbjdhbaa
open Go.RowKit

set_option maxRecDepth 100000 in
set_option maxHeartbeats 8000000 in
theorem lawDotProduct_big0 (s0 : Int) (p0 : Option Addr) (n0 c0 : Nat) (x1 : Int) (x2 : Int) (s3 : Int) (p3 : Option Addr) (n3 c3 : Nat) (x4 : Int) (x5 : Int) (w : World) (m0 : n0 ≤ 9223372036854775807) (bg : 1048576 < n0) :
    Calls Try.prog 3 #[.agg #[.int .i64 s0, .slice p0 n0 c0], .int .i64 x1, .int .i64 x2, .agg #[.int .i64 s3, .slice p3 n3 c3], .int .i64 x4, .int .i64 x5] w fun e' w' => e' = .returned (.bool true) ∧ Below w.heap.size w w' := by
  have BG := hid bg
  clear bg
  go_enter Try.func3, Try.ntmps3
  go_wp2_with fail
  refine (szGraph_any _ _ _ _ _ _ m0 (by omega) (by omega)).mono ?_
  rw [if_pos (by have := BG.out; omega)]
  rintro e' w2 ⟨rfl, hb2⟩
  have hB2 := bfrom (w := w) (by go_grown) hb2
  go_wp2
  go_ret
  exact ⟨rfl, hB2⟩

set_option maxRecDepth 100000 in
set_option maxHeartbeats 8000000 in
theorem lawDotProduct_big3 (s0 : Int) (p0 : Option Addr) (n0 c0 : Nat) (x1 : Int) (x2 : Int) (s3 : Int) (p3 : Option Addr) (n3 c3 : Nat) (x4 : Int) (x5 : Int) (w : World) (m0 : n0 ≤ 9223372036854775807) (m3 : n3 ≤ 9223372036854775807) (sm : n0 ≤ 1048576) (bg : 1048576 < n0 + n3) :
    Calls Try.prog 3 #[.agg #[.int .i64 s0, .slice p0 n0 c0], .int .i64 x1, .int .i64 x2, .agg #[.int .i64 s3, .slice p3 n3 c3], .int .i64 x4, .int .i64 x5] w fun e' w' => e' = .returned (.bool true) ∧ Below w.heap.size w w' := by
  have BG := hid bg
  clear bg
  have hge0 : ¬ ((1048576 : Int) - n0 < 0) := by omega
  go_enter Try.func3, Try.ntmps3
  go_wp2_with fail
  refine (szGraph_any _ _ _ _ _ _ m0 (by omega) (by omega)).mono ?_
  rw [if_neg (by omega)]
  rintro e' w2 ⟨rfl, hb2⟩
  have hB2 := bfrom (w := w) (by go_grown) hb2
  obtain ⟨hc2, hf2⟩ := bcells hb2
  have hz2 : w.heap.size + 2 ≤ w2.heap.size := by have h := hb2.size; simp at h; omega
  go_wp2_with fail
  refine (szGraph_any _ _ _ _ _ _ m3 (by omega) (by omega)).mono ?_
  rw [if_pos (by have := BG.out; omega)]
  rintro e' w3 ⟨rfl, hb3⟩
  have hB3 := bfrom hB2 hb3
  go_wp2
  go_ret
  exact ⟨rfl, hB3⟩

set_option maxRecDepth 100000 in
set_option maxHeartbeats 8000000 in
theorem lawDotProduct_small (s0 : Int) (p0 : Option Addr) (n0 c0 : Nat) (es0 : List (Int × Int)) (x1 : Int) (x2 : Int) (s3 : Int) (p3 : Option Addr) (n3 c3 : Nat) (es3 : List (Int × Int)) (x4 : Int) (x5 : Int) (w : World) (hn0 : es0.length = n0) (hm0 : n0 ≤ 1048576) (hr0 : SeesE w p0 es0) (hn3 : es3.length = n3) (hm3 : n3 ≤ 1048576) (hr3 : SeesE w p3 es3) (hsum : n0 + n3 ≤ 1048576) :
    Calls Try.prog 3 #[.agg #[.int .i64 s0, .slice p0 n0 c0], .int .i64 x1, .int .i64 x2, .agg #[.int .i64 s3, .slice p3 n3 c3], .int .i64 x4, .int .i64 x5] w fun e' w' => e' = .returned (.bool true) ∧ Below w.heap.size w w' := by
  have hq0 : n0 ≤ 9223372036854775807 := by omega
  have hq3 : n3 ≤ 9223372036854775807 := by omega
  have hge0 : ¬ ((1048576 : Int) - n0 < 0) := by omega
  have hge3 : ¬ ((1048576 : Int) - n0 - n3 < 0) := by omega
  have Hn0 := hid hn0
  have Hm0 := hid hm0
  have Hr0 := hid hr0
  have Hn3 := hid hn3
  have Hm3 := hid hm3
  have Hr3 := hid hr3
  obtain ⟨t, L, cd, hR⟩ : ∃ t L cd, fDotProduct s0 es0 x1 x2 s3 es3 x4 x5 = (t, L, cd) := ⟨_, _, _, rfl⟩
  obtain ⟨l, hl⟩ : ∃ l, L.length = l := ⟨_, rfl⟩
  have hl1 : l ≤ 1048576 := by have h := fDotProduct_len s0 es0 x1 x2 s3 es3 x4 x5 (by omega) (by omega); rw [hR] at h; rw [← hl]; exact h
  have hl2 : l ≤ 9223372036854775807 := by omega
  obtain ⟨mk, hmk⟩ : ∃ mk : Int, mk = 1 + 2 * (l : Int) := ⟨_, rfl⟩
  have hmk0 : decide (mk < 0) = false := by simp; omega
  have hmk1 : (mk != mk) = false := by simp
  have hne0 : (cd != cd) = false := by simp
  have hS := fun (q0 : Option Addr) (cc0 : Nat) (q3 : Option Addr) (cc3 : Nat) (ww : World) (hh0 : SeesE ww q0 es0) (hh3 : SeesE ww q3 es3) => sDotProduct_any s0 q0 n0 cc0 es0 x1 x2 s3 q3 n3 cc3 es3 x4 x5 ww hm0 hn0 hh0 hm3 hn3 hh3
  have hI := fun (q0 : Option Addr) (cc0 : Nat) (q3 : Option Addr) (cc3 : Nat) (ww : World) (hh0 : SeesE ww q0 es0) (hh3 : SeesE ww q3 es3) => iDotProduct_any s0 q0 n0 cc0 es0 x1 x2 s3 q3 n3 cc3 es3 x4 x5 ww hm0 hn0 hh0 hm3 hn3 hh3
  rw [hR] at hS hI
  dsimp only at hS hI
  rw [hl] at hS hI
  have HLl := hid hl
  have Hl1 := hid hl1
  have Hmk := hid hmk
  have HS := hid hS
  have HI := hid hI
  obtain ⟨kk0, hkk0⟩ : ∃ kk0 : Int, kk0 = 1 + 2 * (n0 : Int) := ⟨_, rfl⟩
  have hkb0 : 0 ≤ kk0 ∧ kk0 ≤ 4194304 := by omega
  obtain ⟨kk3, hkk3⟩ : ∃ kk3 : Int, kk3 = kk0 + 2 * (n3 : Int) := ⟨_, rfl⟩
  have hkb3 : 0 ≤ kk3 ∧ kk3 ≤ 8388608 := by omega
  have hkn : decide (kk3 < 0) = false := by simp; omega
  have Hkk0 := hid hkk0
  have Hkb0 := hid hkb0
  have Hkk3 := hid hkk3
  have Hkb3 := hid hkb3
  clear hn0 hm0 hr0 hn3 hm3 hr3 hR hS hI hl hl1 hmk hkk0 hkb0 hkk3 hkb3 hsum
  go_enter Try.func3, Try.ntmps3
  go_wp2_with fail
  have HA0_1 : Hid (Box ((w.alloc (.cells #[.int .i64 s0, .slice p0 n0 c0] 24)).alloc (.cells #[.int .i64 s3, .slice p3 n3 c3] 24)) (w.heap.size) s0 p0 n0 c0) := hid (by have h := ((Box.new w s0 p0 n0 c0 24).on (on_alloc _ (.cells #[.int .i64 s3, .slice p3 n3 c3] 24))); first | exact h | simpa only [World.size_alloc] using h)
  have HA3_1 : Hid (Box ((w.alloc (.cells #[.int .i64 s0, .slice p0 n0 c0] 24)).alloc (.cells #[.int .i64 s3, .slice p3 n3 c3] 24)) (w.heap.size + 1) s3 p3 n3 c3) := hid (by have h := (Box.new (w.alloc (.cells #[.int .i64 s0, .slice p0 n0 c0] 24)) s3 p3 n3 c3 24); first | exact h | simpa only [World.size_alloc] using h)
  have HB1 : Hid (Below w.heap.size w ((w.alloc (.cells #[.int .i64 s0, .slice p0 n0 c0] 24)).alloc (.cells #[.int .i64 s3, .slice p3 n3 c3] 24))) := hid (bfrom (bfrom (Below.refl _ _) (on_alloc _ (.cells #[.int .i64 s0, .slice p0 n0 c0] 24))) (on_alloc _ (.cells #[.int .i64 s3, .slice p3 n3 c3] 24)))
  refine (szGraph_any _ _ _ _ _ _ hq0 (by omega) (by omega)).mono ?_
  rw [if_neg (by omega)]
  rintro e' w2 ⟨rfl, hb2⟩
  have HA0_2 := hid (HA0_1.out.on hb2)
  have HA3_2 := hid (HA3_1.out.on hb2)
  have HB2 := hid (bfrom HB1.out hb2)
  have hs2 : w.heap.size + 1 + 1 ≤ w2.heap.size := by have h := hb2.size; simp only [World.size_alloc] at h; omega
  clear HA0_1 HA3_1 HB1 hb2
  have hxA0 := HA0_2.out.1
  have hyA0 := HA0_2.out.2
  have hzA0 := HA0_2.out.lt
  have hxA3 := HA3_2.out.1
  have hyA3 := HA3_2.out.2
  have hzA3 := HA3_2.out.lt
  go_wp2_with fail
  refine (szGraph_any _ _ _ _ _ _ hq3 (by omega) (by omega)).mono ?_
  rw [if_neg (by omega)]
  rintro e' w3 ⟨rfl, hb3⟩
  have HA0_3 := hid (HA0_2.out.on hb3)
  have HA3_3 := hid (HA3_2.out.on hb3)
  have HB3 := hid (bfrom HB2.out hb3)
  have hs3 : w2.heap.size ≤ w3.heap.size := by have h := hb3.size; omega
  clear hxA0 hyA0 hzA0 hxA3 hyA3 hzA3
  clear HA0_2 HA3_2 HB2 hb3
  have hxA0 := HA0_3.out.1
  have hyA0 := HA0_3.out.2
  have hzA0 := HA0_3.out.lt
  have hxA3 := HA3_3.out.1
  have hyA3 := HA3_3.out.2
  have hzA3 := HA3_3.out.lt
  have hBN := HB3.out
  go_upto_region 8 with fail
  go_cut [14, 15] (fun bb uu wx => ∃ (B : Nat) (q : Option Addr) (cap : Nat), bb = .pointer (some ⟨B, 0, none⟩) ∧ uu = .int .i64 cd ∧ Hid (Box wx B t q l cap ∧ FreshE w3.heap.size wx q l cap L ∧ w3.heap.size ≤ B ∧ Below w3.heap.size w3 wx))
  case first =>
    go_region_held3 (fun w' => w'.cell? ⟨w.heap.size, 0, none⟩ = some (.int .i64 s0) ∧ w'.cell? ⟨w.heap.size, 1, none⟩ = some (.slice p0 n0 c0) ∧ w'.cell? ⟨w.heap.size + 1, 0, none⟩ = some (.int .i64 s3) ∧ w'.cell? ⟨w.heap.size + 1, 1, none⟩ = some (.slice p3 n3 c3))
      (first | go_keep | (go_split_ands; refine ⟨?_, ?_, ?_, ?_⟩ <;> first | assumption | (rw [two_sets_cell (by dsimp only; omega)]; assumption)))
      (first
        | (go_at_call_of 8 (Value.agg #[.int .i64 s0, .slice p0 n0 c0]); refine (toGraph_any _ _ _ _ es0 _ Hn0.out Hm0.out ?_).mono ?_; (exact Hr0.out.on (by go_grown)); rintro e' wa ⟨ga, rfl, hga, hoa, hba⟩; have HOA := hid hoa; have hBA : Below w3.heap.size w3 wa := bfrom (by have := Below.refl w3.heap.size w3; go_grown) hba; have hsA := hBA.size; obtain ⟨ha1, ha2⟩ := HA0_3.out.on hBA; obtain ⟨ha3, ha4⟩ := HA3_3.out.on hBA)
        | (go_at_call_of 8 (Value.agg #[.int .i64 s3, .slice p3 n3 c3]); refine (toGraph_any _ _ _ _ es3 _ Hn3.out Hm3.out ?_).mono ?_; (exact Hr3.out.on (bfrom (bfrom hBN hBA) (by have := Below.refl wa.heap.size wa; go_grown))); rintro e' wb ⟨gb, rfl, hgb, hob, hbb⟩; have HOB := hid hob; have hBB : Below w3.heap.size w3 wb := bfrom (bfrom hBA (by have := Below.refl wa.heap.size wa; go_grown)) hbb; have hsB := hBB.size; have hsAB := hbb.size; (try simp only [drew_size] at hsAB); (try simp only [World.size_alloc] at hsAB); obtain ⟨hbx1, hbx2⟩ := HA0_3.out.on hBB; obtain ⟨hbx3, hbx4⟩ := HA3_3.out.on hBB)
        | (go_at_call 7; refine (HS.out _ _ _ _ _ ?_ ?_).mono ?_; (exact (HOA.out.on (bfrom (bfrom (by have := Below.refl wa.heap.size wa; go_grown) hbb) (by have := Below.refl wb.heap.size wb; go_grown))).sees); (exact (HOB.out.on (by have := Below.refl wb.heap.size wb; go_grown)).sees); rintro e' wc ⟨q, cap, rfl, hf, hbc⟩; have HF := hid hf; have hBC : Below w3.heap.size w3 wc := bfrom (bfrom hBB (by have := Below.refl wb.heap.size wb; go_grown)) hbc; obtain ⟨hc1, hc2⟩ := HA0_3.out.on hBC; obtain ⟨hc3, hc4⟩ := HA3_3.out.on hBC; obtain ⟨hca, hfa⟩ := bcells hba; obtain ⟨hcb, hfb⟩ := bcells hbb; obtain ⟨hcc, hfc⟩ := bcells hbc; have hsC := hBC.size; have hsBC := hbc.size; (try simp only [drew_size] at hsBC); (try simp only [World.size_alloc] at hsBC); have hsWA := hba.size; (try simp only [drew_size] at hsWA); (try simp only [World.size_alloc] at hsWA); first | (have hB0 : wc.cell? ⟨wb.heap.size, 0, none⟩ = some (.int .i64 0) := (hcc _ _ (by first | omega | ((try simp only [drew_size]); (try simp only [World.size_alloc]); omega))).trans (by simp); have hB1 : wc.cell? ⟨wb.heap.size, 1, none⟩ = some (.slice none 0 0) := (hcc _ _ (by first | omega | ((try simp only [drew_size]); (try simp only [World.size_alloc]); omega))).trans (by simp); have hG0 : wc.frozen? ⟨wb.heap.size, 0, none⟩ = false := (hfc _ _ (by first | omega | ((try simp only [drew_size]); (try simp only [World.size_alloc]); omega))).trans (by simp); have hG1 : wc.frozen? ⟨wb.heap.size, 1, none⟩ = false := (hfc _ _ (by first | omega | ((try simp only [drew_size]); (try simp only [World.size_alloc]); omega))).trans (by simp); have hlB : wb.heap.size < wc.heap.size := (by have h := hbc.size; (try simp only [drew_size] at h); (try simp only [World.size_alloc] at h); omega)) | (have hB0 : wc.cell? ⟨wa.heap.size, 0, none⟩ = some (.int .i64 0) := (hcc _ _ (by first | omega | ((try simp only [drew_size]); (try simp only [World.size_alloc]); omega))).trans ((hcb _ _ (by first | omega | ((try simp only [drew_size]); (try simp only [World.size_alloc]); omega))).trans (by simp)); have hB1 : wc.cell? ⟨wa.heap.size, 1, none⟩ = some (.slice none 0 0) := (hcc _ _ (by first | omega | ((try simp only [drew_size]); (try simp only [World.size_alloc]); omega))).trans ((hcb _ _ (by first | omega | ((try simp only [drew_size]); (try simp only [World.size_alloc]); omega))).trans (by simp)); have hG0 : wc.frozen? ⟨wa.heap.size, 0, none⟩ = false := (hfc _ _ (by first | omega | ((try simp only [drew_size]); (try simp only [World.size_alloc]); omega))).trans ((hfb _ _ (by first | omega | ((try simp only [drew_size]); (try simp only [World.size_alloc]); omega))).trans (by simp)); have hG1 : wc.frozen? ⟨wa.heap.size, 1, none⟩ = false := (hfc _ _ (by first | omega | ((try simp only [drew_size]); (try simp only [World.size_alloc]); omega))).trans ((hfb _ _ (by first | omega | ((try simp only [drew_size]); (try simp only [World.size_alloc]); omega))).trans (by simp)); have hlB : wa.heap.size < wc.heap.size := (by have h := hbc.size; (try simp only [drew_size] at h); (try simp only [World.size_alloc] at h); omega)) | (have hB0 : wc.cell? ⟨w3.heap.size, 0, none⟩ = some (.int .i64 0) := (hcc _ _ (by first | omega | ((try simp only [drew_size]); (try simp only [World.size_alloc]); omega))).trans ((hcb _ _ (by first | omega | ((try simp only [drew_size]); (try simp only [World.size_alloc]); omega))).trans ((hca _ _ (by first | omega | ((try simp only [drew_size]); (try simp only [World.size_alloc]); omega))).trans (by simp))); have hB1 : wc.cell? ⟨w3.heap.size, 1, none⟩ = some (.slice none 0 0) := (hcc _ _ (by first | omega | ((try simp only [drew_size]); (try simp only [World.size_alloc]); omega))).trans ((hcb _ _ (by first | omega | ((try simp only [drew_size]); (try simp only [World.size_alloc]); omega))).trans ((hca _ _ (by first | omega | ((try simp only [drew_size]); (try simp only [World.size_alloc]); omega))).trans (by simp))); have hG0 : wc.frozen? ⟨w3.heap.size, 0, none⟩ = false := (hfc _ _ (by first | omega | ((try simp only [drew_size]); (try simp only [World.size_alloc]); omega))).trans ((hfb _ _ (by first | omega | ((try simp only [drew_size]); (try simp only [World.size_alloc]); omega))).trans ((hfa _ _ (by first | omega | ((try simp only [drew_size]); (try simp only [World.size_alloc]); omega))).trans (by simp))); have hG1 : wc.frozen? ⟨w3.heap.size, 1, none⟩ = false := (hfc _ _ (by first | omega | ((try simp only [drew_size]); (try simp only [World.size_alloc]); omega))).trans ((hfb _ _ (by first | omega | ((try simp only [drew_size]); (try simp only [World.size_alloc]); omega))).trans ((hfa _ _ (by first | omega | ((try simp only [drew_size]); (try simp only [World.size_alloc]); omega))).trans (by simp))); have hlB : w3.heap.size < wc.heap.size := (by have h := hbc.size; (try simp only [drew_size] at h); (try simp only [World.size_alloc] at h); omega)) | skip))
    all_goals
      go_wp2_with fail
      go_meet
      refine ⟨_, q, cap, rfl, rfl, hid ⟨?_, ?_, ?_, ?_⟩⟩
      · first
          | exact Box.new _ _ _ _ _ _
          | exact box_two hB0 hB1
      · first
          | exact (HF.out.on (on_alloc _ _)).less (by first | omega | (simp only [World.size_alloc]; omega))
          | exact ((HF.out.far (by first | (dsimp only; omega) | (simp only [World.size_alloc]; omega)) _).far (by first | (dsimp only; omega) | (simp only [World.size_alloc]; omega)) _).less (by first | omega | (simp only [World.size_alloc]; omega))
      · omega
      · first
          | exact hBC.alloc hBC.size _
          | exact (hBC.setCell (by dsimp only; omega) _).setCell (by dsimp only; omega) _
  case rest =>
  obtain ⟨BW, qW, capW, rfl, rfl, hcb⟩ := hcut
  obtain ⟨w4, rfl⟩ : ∃ w4, w4 = wc := ⟨_, rfl⟩
  obtain ⟨hbx, hfW, hsbW, hb4⟩ := hcb.out
  clear hcb hBN
  have HWB_4 := hid hbx
  have hlbW := hbx.lt
  clear hbx
  have HA0_4 := hid (HA0_3.out.on hb4)
  have HA3_4 := hid (HA3_3.out.on hb4)
  have HB4 := hid (bfrom HB3.out hb4)
  have hs4 : w3.heap.size ≤ w4.heap.size := by have h := hb4.size; omega
  clear hxA0 hyA0 hzA0 hxA3 hyA3 hzA3
  clear HA0_3 HA3_3 HB3 hb4
  have HW_4 := hid hfW
  have hq := fun g h => hfW.own (g := g) h
  have QW := hid hq
  clear hfW hq
  have hxA0 := HA0_4.out.1
  have hyA0 := HA0_4.out.2
  have hzA0 := HA0_4.out.lt
  have hxA3 := HA3_4.out.1
  have hyA3 := HA3_4.out.2
  have hzA3 := HA3_4.out.lt
  have hxWB := HWB_4.out.1
  have hyWB := HWB_4.out.2
  have hzWB := HWB_4.out.lt
  go_wp2_with fail
  refine (toGraph_any _ _ _ _ es0 _ Hn0.out Hm0.out (Hr0.out.on HB4.out)).mono ?_
  rintro e' w5 ⟨gX0, rfl, hgX0, hoX0, hb5⟩
  have hfX0 := FreshE.of_own hoX0 Hn0.out hgX0
  clear hoX0 hgX0
  have HA0_5 := hid (HA0_4.out.on hb5)
  have HA3_5 := hid (HA3_4.out.on hb5)
  have HWB_5 := hid (HWB_4.out.on hb5)
  have HW_5 := hid (HW_4.out.on hb5)
  have HB5 := hid (bfrom HB4.out hb5)
  have hs5 : w4.heap.size ≤ w5.heap.size := by have h := hb5.size; omega
  clear hxA0 hyA0 hzA0 hxA3 hyA3 hzA3 hxWB hyWB hzWB
  clear HA0_4 HA3_4 HWB_4 HW_4 HB4 hb5
  have HX0_5 := hid hfX0
  have hq := fun g h => hfX0.own (g := g) h
  have QX0 := hid hq
  clear hfX0 hq
  have hxA0 := HA0_5.out.1
  have hyA0 := HA0_5.out.2
  have hzA0 := HA0_5.out.lt
  have hxA3 := HA3_5.out.1
  have hyA3 := HA3_5.out.2
  have hzA3 := HA3_5.out.lt
  have hxWB := HWB_5.out.1
  have hyWB := HWB_5.out.2
  have hzWB := HWB_5.out.lt
  go_wp2_with fail
  refine (toGraph_any _ _ _ _ es3 _ Hn3.out Hm3.out (Hr3.out.on (bfrom HB5.out (on_alloc _ _)))).mono ?_
  rintro e' w6 ⟨gX3, rfl, hgX3, hoX3, hb6⟩
  have hfX3 := FreshE.of_own hoX3 Hn3.out hgX3
  clear hoX3 hgX3
  have HA0_6 := hid ((HA0_5.out.on (on_alloc _ _)).on hb6)
  have HA3_6 := hid ((HA3_5.out.on (on_alloc _ _)).on hb6)
  have HWB_6 := hid ((HWB_5.out.on (on_alloc _ _)).on hb6)
  have HW_6 := hid ((HW_5.out.on (on_alloc _ _)).on hb6)
  have HX0_6 := hid ((HX0_5.out.on (on_alloc _ _)).on hb6)
  have HXB0_6 := hid ((Box.new w5 s0 (some ⟨gX0, 0, none⟩) n0 n0 28).on hb6)
  have HB6 := hid (bfrom (bfrom HB5.out (on_alloc _ _)) hb6)
  have hs6 : w5.heap.size + 1 ≤ w6.heap.size := by have h := hb6.size; simp only [World.size_alloc] at h; omega
  clear hxA0 hyA0 hzA0 hxA3 hyA3 hzA3 hxWB hyWB hzWB
  clear HA0_5 HA3_5 HWB_5 HW_5 HX0_5 HB5 hb6
  have HX3_6 := hid hfX3
  have hq := fun g h => hfX3.own (g := g) h
  simp only [World.size_alloc] at hq
  have QX3 := hid hq
  clear hfX3 hq
  have hxA0 := HA0_6.out.1
  have hyA0 := HA0_6.out.2
  have hzA0 := HA0_6.out.lt
  have hxA3 := HA3_6.out.1
  have hyA3 := HA3_6.out.2
  have hzA3 := HA3_6.out.lt
  have hxWB := HWB_6.out.1
  have hyWB := HWB_6.out.2
  have hzWB := HWB_6.out.lt
  have hxXB0 := HXB0_6.out.1
  have hyXB0 := HXB0_6.out.2
  have hzXB0 := HXB0_6.out.lt
  go_wp2_with fail
  refine (HI.out _ _ _ _ _ (HX0_6.out.on (on_alloc _ _)).sees (HX3_6.out.on (on_alloc _ _)).sees).mono ?_
  rintro e' w7 ⟨qG, capG, rfl, hfG, hb7⟩
  have HA0_7 := hid ((HA0_6.out.on (on_alloc _ _)).on hb7)
  have HA3_7 := hid ((HA3_6.out.on (on_alloc _ _)).on hb7)
  have HWB_7 := hid ((HWB_6.out.on (on_alloc _ _)).on hb7)
  have HW_7 := hid ((HW_6.out.on (on_alloc _ _)).on hb7)
  have HX0_7 := hid ((HX0_6.out.on (on_alloc _ _)).on hb7)
  have HXB0_7 := hid ((HXB0_6.out.on (on_alloc _ _)).on hb7)
  have HX3_7 := hid ((HX3_6.out.on (on_alloc _ _)).on hb7)
  have HXB3_7 := hid ((Box.new w6 s3 (some ⟨gX3, 0, none⟩) n3 n3 28).on hb7)
  have HB7 := hid (bfrom (bfrom HB6.out (on_alloc _ _)) hb7)
  have hs7 : w6.heap.size + 1 ≤ w7.heap.size := by have h := hb7.size; simp only [World.size_alloc] at h; omega
  clear hxA0 hyA0 hzA0 hxA3 hyA3 hzA3 hxWB hyWB hzWB hxXB0 hyXB0 hzXB0
  clear HA0_6 HA3_6 HWB_6 HW_6 HX0_6 HXB0_6 HX3_6 HB6 hb7
  have HG_7 := hid hfG
  have hq := fun g h => hfG.own (g := g) h
  simp only [World.size_alloc] at hq
  have QG := hid hq
  clear hfG hq
  have hxA0 := HA0_7.out.1
  have hyA0 := HA0_7.out.2
  have hzA0 := HA0_7.out.lt
  have hxA3 := HA3_7.out.1
  have hyA3 := HA3_7.out.2
  have hzA3 := HA3_7.out.lt
  have hxWB := HWB_7.out.1
  have hyWB := HWB_7.out.2
  have hzWB := HWB_7.out.lt
  have hxXB0 := HXB0_7.out.1
  have hyXB0 := HXB0_7.out.2
  have hzXB0 := HXB0_7.out.lt
  have hxXB3 := HXB3_7.out.1
  have hyXB3 := HXB3_7.out.2
  have hzXB3 := HXB3_7.out.lt
  go_wp2_with fail
  refine (eqGraph_self _ _ _ _ _ _ L _ HLl.out hl2 (HG_7.out.on (on_alloc _ _)).sees (HW_7.out.on (on_alloc _ _)).sees).mono ?_
  rintro e' w8 ⟨rfl, hb8⟩
  have HA0_8 := hid ((HA0_7.out.on (on_alloc _ _)).on hb8)
  have HA3_8 := hid ((HA3_7.out.on (on_alloc _ _)).on hb8)
  have HWB_8 := hid ((HWB_7.out.on (on_alloc _ _)).on hb8)
  have HW_8 := hid ((HW_7.out.on (on_alloc _ _)).on hb8)
  have HX0_8 := hid ((HX0_7.out.on (on_alloc _ _)).on hb8)
  have HXB0_8 := hid ((HXB0_7.out.on (on_alloc _ _)).on hb8)
  have HX3_8 := hid ((HX3_7.out.on (on_alloc _ _)).on hb8)
  have HXB3_8 := hid ((HXB3_7.out.on (on_alloc _ _)).on hb8)
  have HG_8 := hid ((HG_7.out.on (on_alloc _ _)).on hb8)
  have HGB_8 := hid ((Box.new w7 t qG l capG 28).on hb8)
  have HB8 := hid (bfrom (bfrom HB7.out (on_alloc _ _)) hb8)
  have hs8 : w7.heap.size + 1 ≤ w8.heap.size := by have h := hb8.size; simp only [World.size_alloc] at h; omega
  clear hxA0 hyA0 hzA0 hxA3 hyA3 hzA3 hxWB hyWB hzWB hxXB0 hyXB0 hzXB0 hxXB3 hyXB3 hzXB3
  clear HA0_7 HA3_7 HWB_7 HW_7 HX0_7 HXB0_7 HX3_7 HXB3_7 HG_7 HB7 hb8
  have hxA0 := HA0_8.out.1
  have hyA0 := HA0_8.out.2
  have hzA0 := HA0_8.out.lt
  have hxA3 := HA3_8.out.1
  have hyA3 := HA3_8.out.2
  have hzA3 := HA3_8.out.lt
  have hxWB := HWB_8.out.1
  have hyWB := HWB_8.out.2
  have hzWB := HWB_8.out.lt
  have hxXB0 := HXB0_8.out.1
  have hyXB0 := HXB0_8.out.2
  have hzXB0 := HXB0_8.out.lt
  have hxXB3 := HXB3_8.out.1
  have hyXB3 := HXB3_8.out.2
  have hzXB3 := HXB3_8.out.lt
  have hxGB := HGB_8.out.1
  have hyGB := HGB_8.out.2
  have hzGB := HGB_8.out.lt
  go_upto_region 14 with fail
  go_cut [74] (fun u wx => u = .bool false ∧ Hid (Below w8.heap.size w8 wx))
  case first =>
    go_region_with (first
      | (go_at_call 8; refine (toGraph_any _ _ _ _ es0 _ Hn0.out Hm0.out ?_).mono ?_; (first | exact Hr0.out.on HB8.out | exact Hr0.out.on HB8.out.drew); rintro e' w9 ⟨gY0, rfl, hgY0, hoY0, hb9⟩; have HoY0 := hid hoY0; clear hoY0; have huXB0 := ((bcells hb9).1 _ _ hzXB0).trans hxXB0; have hvXB0 := ((bcells hb9).1 _ _ hzXB0).trans hyXB0)
      | (go_at_call 10; refine (eqGraph_self _ _ _ _ _ _ es0 _ Hn0.out hq0 ?_ ?_).mono ?_; (exact (HX0_8.out.drew.on hb9).sees); (exact HoY0.out.sees); rintro e' w10 ⟨rfl, hb10⟩))
    all_goals (go_wp2_with fail; go_meet; exact ⟨rfl, hid (bfrom (bfrom (Below.refl _ _).drew hb9) hb10)⟩)
  case rest =>
  obtain ⟨rfl, hcb⟩ := hcut
  obtain ⟨w11, rfl⟩ : ∃ w11, w11 = wc := ⟨_, rfl⟩
  have hb11 := hcb.out
  clear hcb
  have HA0_11 := hid (HA0_8.out.on hb11)
  have HA3_11 := hid (HA3_8.out.on hb11)
  have HWB_11 := hid (HWB_8.out.on hb11)
  have HW_11 := hid (HW_8.out.on hb11)
  have HX0_11 := hid (HX0_8.out.on hb11)
  have HXB0_11 := hid (HXB0_8.out.on hb11)
  have HX3_11 := hid (HX3_8.out.on hb11)
  have HXB3_11 := hid (HXB3_8.out.on hb11)
  have HG_11 := hid (HG_8.out.on hb11)
  have HGB_11 := hid (HGB_8.out.on hb11)
  have HB11 := hid (bfrom HB8.out hb11)
  have hs11 : w8.heap.size ≤ w11.heap.size := hb11.size
  clear hxA0 hyA0 hzA0 hxA3 hyA3 hzA3 hxWB hyWB hzWB hxXB0 hyXB0 hzXB0 hxXB3 hyXB3 hzXB3 hxGB hyGB hzGB
  clear HA0_8 HA3_8 HWB_8 HW_8 HX0_8 HXB0_8 HX3_8 HXB3_8 HG_8 HGB_8 HB8 hb11
  have hxA0 := HA0_11.out.1
  have hyA0 := HA0_11.out.2
  have hzA0 := HA0_11.out.lt
  have hxA3 := HA3_11.out.1
  have hyA3 := HA3_11.out.2
  have hzA3 := HA3_11.out.lt
  have hxWB := HWB_11.out.1
  have hyWB := HWB_11.out.2
  have hzWB := HWB_11.out.lt
  have hxXB0 := HXB0_11.out.1
  have hyXB0 := HXB0_11.out.2
  have hzXB0 := HXB0_11.out.lt
  have hxXB3 := HXB3_11.out.1
  have hyXB3 := HXB3_11.out.2
  have hzXB3 := HXB3_11.out.lt
  have hxGB := HGB_11.out.1
  have hyGB := HGB_11.out.2
  have hzGB := HGB_11.out.lt
  go_upto_region 16 with fail
  go_cut [79] (fun u wx => u = .bool false ∧ Hid (Below w11.heap.size w11 wx))
  case first =>
    go_region_with (first
      | (go_at_call 8; refine (toGraph_any _ _ _ _ es3 _ Hn3.out Hm3.out ?_).mono ?_; (first | exact Hr3.out.on HB11.out | exact Hr3.out.on HB11.out.drew); rintro e' w12 ⟨gY3, rfl, hgY3, hoY3, hb12⟩; have HoY3 := hid hoY3; clear hoY3; have huXB3 := ((bcells hb12).1 _ _ hzXB3).trans hxXB3; have hvXB3 := ((bcells hb12).1 _ _ hzXB3).trans hyXB3)
      | (go_at_call 10; refine (eqGraph_self _ _ _ _ _ _ es3 _ Hn3.out hq3 ?_ ?_).mono ?_; (exact (HX3_11.out.drew.on hb12).sees); (exact HoY3.out.sees); rintro e' w13 ⟨rfl, hb13⟩))
    all_goals (go_wp2_with fail; go_meet; exact ⟨rfl, hid (bfrom (bfrom (Below.refl _ _).drew hb12) hb13)⟩)
  case rest =>
  obtain ⟨rfl, hcb⟩ := hcut
  obtain ⟨w14, rfl⟩ : ∃ w14, w14 = wc := ⟨_, rfl⟩
  have hb14 := hcb.out
  clear hcb
  have HA0_14 := hid (HA0_11.out.on hb14)
  have HA3_14 := hid (HA3_11.out.on hb14)
  have HWB_14 := hid (HWB_11.out.on hb14)
  have HW_14 := hid (HW_11.out.on hb14)
  have HX0_14 := hid (HX0_11.out.on hb14)
  have HXB0_14 := hid (HXB0_11.out.on hb14)
  have HX3_14 := hid (HX3_11.out.on hb14)
  have HXB3_14 := hid (HXB3_11.out.on hb14)
  have HG_14 := hid (HG_11.out.on hb14)
  have HGB_14 := hid (HGB_11.out.on hb14)
  have HB14 := hid (bfrom HB11.out hb14)
  have hs14 : w11.heap.size ≤ w14.heap.size := hb14.size
  clear hxA0 hyA0 hzA0 hxA3 hyA3 hzA3 hxWB hyWB hzWB hxXB0 hyXB0 hzXB0 hxXB3 hyXB3 hzXB3 hxGB hyGB hzGB
  clear HA0_11 HA3_11 HWB_11 HW_11 HX0_11 HXB0_11 HX3_11 HXB3_11 HG_11 HGB_11 HB11 hb14
  have hxA0 := HA0_14.out.1
  have hyA0 := HA0_14.out.2
  have hzA0 := HA0_14.out.lt
  have hxA3 := HA3_14.out.1
  have hyA3 := HA3_14.out.2
  have hzA3 := HA3_14.out.lt
  have hxWB := HWB_14.out.1
  have hyWB := HWB_14.out.2
  have hzWB := HWB_14.out.lt
  have hxXB0 := HXB0_14.out.1
  have hyXB0 := HXB0_14.out.2
  have hzXB0 := HXB0_14.out.lt
  have hxXB3 := HXB3_14.out.1
  have hyXB3 := HXB3_14.out.2
  have hzXB3 := HXB3_14.out.lt
  have hxGB := HGB_14.out.1
  have hyGB := HGB_14.out.2
  have hzGB := HGB_14.out.lt
  go_wp2_with fail
  refine (markGraph_k _ _ _ _ 1 es0 _ Hm0.out (by omega) (by omega) HX0_14.out).mono ?_
  rw [← Hkk0.out]
  rintro e' w15 ⟨rfl, hfm0, hg15⟩
  have HA0_15 := hid (HA0_14.out.kept hg15 (sep_box QX0.out (by omega)))
  have HA3_15 := hid (HA3_14.out.kept hg15 (sep_box QX0.out (by omega)))
  have HWB_15 := hid (HWB_14.out.kept hg15 (sep_box QX0.out (by omega)))
  have HW_15 := hid (HW_14.out.kept hg15 (sep_own QX0.out QW.out (by omega)))
  have HXB0_15 := hid (HXB0_14.out.kept hg15 (sep_box QX0.out (by omega)))
  have HX3_15 := hid (HX3_14.out.kept hg15 (sep_own QX0.out QX3.out (by omega)))
  have HXB3_15 := hid (HXB3_14.out.kept hg15 (sep_box QX0.out (by omega)))
  have HG_15 := hid (HG_14.out.kept hg15 (sep_own QX0.out QG.out (by omega)))
  have HGB_15 := hid (HGB_14.out.kept hg15 (sep_box QX0.out (by omega)))
  have HB15 := hid (HB14.out.grown hg15 HB14.out.size (fun k hk => by have h := (QX0.out k hk).1; omega))
  have hs15 : w14.heap.size ≤ w15.heap.size := hg15.size
  clear hxA0 hyA0 hzA0 hxA3 hyA3 hzA3 hxWB hyWB hzWB hxXB0 hyXB0 hzXB0 hxXB3 hyXB3 hzXB3 hxGB hyGB hzGB
  clear HA0_14 HA3_14 HWB_14 HW_14 HX0_14 HXB0_14 HX3_14 HXB3_14 HG_14 HGB_14 HB14 hg15
  clear hfm0
  have hxA0 := HA0_15.out.1
  have hyA0 := HA0_15.out.2
  have hzA0 := HA0_15.out.lt
  have hxA3 := HA3_15.out.1
  have hyA3 := HA3_15.out.2
  have hzA3 := HA3_15.out.lt
  have hxWB := HWB_15.out.1
  have hyWB := HWB_15.out.2
  have hzWB := HWB_15.out.lt
  have hxXB0 := HXB0_15.out.1
  have hyXB0 := HXB0_15.out.2
  have hzXB0 := HXB0_15.out.lt
  have hxXB3 := HXB3_15.out.1
  have hyXB3 := HXB3_15.out.2
  have hzXB3 := HXB3_15.out.lt
  have hxGB := HGB_15.out.1
  have hyGB := HGB_15.out.2
  have hzGB := HGB_15.out.lt
  go_wp2_with fail
  refine (markGraph_k _ _ _ _ kk0 es3 _ Hm3.out Hkb0.out.1 (by have := Hkb0.out.2; omega) HX3_15.out).mono ?_
  rw [← Hkk3.out]
  rintro e' w16 ⟨rfl, hfm3, hg16⟩
  have HA0_16 := hid (HA0_15.out.kept hg16 (sep_box QX3.out (by omega)))
  have HA3_16 := hid (HA3_15.out.kept hg16 (sep_box QX3.out (by omega)))
  have HWB_16 := hid (HWB_15.out.kept hg16 (sep_box QX3.out (by omega)))
  have HW_16 := hid (HW_15.out.kept hg16 (sep_own QX3.out QW.out (by omega)))
  have HXB0_16 := hid (HXB0_15.out.kept hg16 (sep_box QX3.out (by omega)))
  have HXB3_16 := hid (HXB3_15.out.kept hg16 (sep_box QX3.out (by omega)))
  have HG_16 := hid (HG_15.out.kept hg16 (sep_own QX3.out QG.out (by omega)))
  have HGB_16 := hid (HGB_15.out.kept hg16 (sep_box QX3.out (by omega)))
  have HB16 := hid (HB15.out.grown hg16 HB15.out.size (fun k hk => by have h := (QX3.out k hk).1; omega))
  have hs16 : w15.heap.size ≤ w16.heap.size := hg16.size
  clear hxA0 hyA0 hzA0 hxA3 hyA3 hzA3 hxWB hyWB hzWB hxXB0 hyXB0 hzXB0 hxXB3 hyXB3 hzXB3 hxGB hyGB hzGB
  clear HA0_15 HA3_15 HWB_15 HW_15 HXB0_15 HX3_15 HXB3_15 HG_15 HGB_15 HB15 hg16
  clear hfm3
  have hxA0 := HA0_16.out.1
  have hyA0 := HA0_16.out.2
  have hzA0 := HA0_16.out.lt
  have hxA3 := HA3_16.out.1
  have hyA3 := HA3_16.out.2
  have hzA3 := HA3_16.out.lt
  have hxWB := HWB_16.out.1
  have hyWB := HWB_16.out.2
  have hzWB := HWB_16.out.lt
  have hxXB0 := HXB0_16.out.1
  have hyXB0 := HXB0_16.out.2
  have hzXB0 := HXB0_16.out.lt
  have hxXB3 := HXB3_16.out.1
  have hyXB3 := HXB3_16.out.2
  have hzXB3 := HXB3_16.out.lt
  have hxGB := HGB_16.out.1
  have hyGB := HGB_16.out.2
  have hzGB := HGB_16.out.lt
  go_wp2_with fail
  refine (eqGraph_self _ _ _ _ _ _ L _ HLl.out hl2 HG_16.out.sees HW_16.out.sees).mono ?_
  rintro e' w17 ⟨rfl, hb17⟩
  have HA0_17 := hid (HA0_16.out.on hb17)
  have HA3_17 := hid (HA3_16.out.on hb17)
  have HWB_17 := hid (HWB_16.out.on hb17)
  have HW_17 := hid (HW_16.out.on hb17)
  have HXB0_17 := hid (HXB0_16.out.on hb17)
  have HXB3_17 := hid (HXB3_16.out.on hb17)
  have HG_17 := hid (HG_16.out.on hb17)
  have HGB_17 := hid (HGB_16.out.on hb17)
  have HB17 := hid (bfrom HB16.out hb17)
  have hs17 : w16.heap.size ≤ w17.heap.size := by have h := hb17.size; omega
  clear hxA0 hyA0 hzA0 hxA3 hyA3 hzA3 hxWB hyWB hzWB hxXB0 hyXB0 hzXB0 hxXB3 hyXB3 hzXB3 hxGB hyGB hzGB
  clear HA0_16 HA3_16 HWB_16 HW_16 HXB0_16 HXB3_16 HG_16 HGB_16 HB16 hb17
  have hxA0 := HA0_17.out.1
  have hyA0 := HA0_17.out.2
  have hzA0 := HA0_17.out.lt
  have hxA3 := HA3_17.out.1
  have hyA3 := HA3_17.out.2
  have hzA3 := HA3_17.out.lt
  have hxWB := HWB_17.out.1
  have hyWB := HWB_17.out.2
  have hzWB := HWB_17.out.lt
  have hxXB0 := HXB0_17.out.1
  have hyXB0 := HXB0_17.out.2
  have hzXB0 := HXB0_17.out.lt
  have hxXB3 := HXB3_17.out.1
  have hyXB3 := HXB3_17.out.2
  have hzXB3 := HXB3_17.out.lt
  have hxGB := HGB_17.out.1
  have hyGB := HGB_17.out.2
  have hzGB := HGB_17.out.lt
  go_wp2_with fail
  refine (markGraph_k _ _ _ _ 1 L _ Hl1.out (by omega) (by omega) HG_17.out).mono ?_
  rw [← Hmk.out]
  rintro e' w18 ⟨rfl, hfm, hg18⟩
  have HA0_18 := hid (HA0_17.out.kept hg18 (sep_box QG.out (by omega)))
  have HA3_18 := hid (HA3_17.out.kept hg18 (sep_box QG.out (by omega)))
  have HWB_18 := hid (HWB_17.out.kept hg18 (sep_box QG.out (by omega)))
  have HW_18 := hid (HW_17.out.kept hg18 (sep_own QG.out QW.out (by omega)))
  have HXB0_18 := hid (HXB0_17.out.kept hg18 (sep_box QG.out (by omega)))
  have HXB3_18 := hid (HXB3_17.out.kept hg18 (sep_box QG.out (by omega)))
  have HGB_18 := hid (HGB_17.out.kept hg18 (sep_box QG.out (by omega)))
  have HB18 := hid (HB17.out.grown hg18 HB17.out.size (fun k hk => by have h := (QG.out k hk).1; omega))
  have hs18 : w17.heap.size ≤ w18.heap.size := hg18.size
  clear hxA0 hyA0 hzA0 hxA3 hyA3 hzA3 hxWB hyWB hzWB hxXB0 hyXB0 hzXB0 hxXB3 hyXB3 hzXB3 hxGB hyGB hzGB
  clear HA0_17 HA3_17 HWB_17 HW_17 HXB0_17 HXB3_17 HG_17 HGB_17 HB17 hg18
  have HK_18 := hid hfm
  have hq := fun g h => hfm.own (g := g) h
  have QK := hid hq
  clear hfm hq
  have hxA0 := HA0_18.out.1
  have hyA0 := HA0_18.out.2
  have hzA0 := HA0_18.out.lt
  have hxA3 := HA3_18.out.1
  have hyA3 := HA3_18.out.2
  have hzA3 := HA3_18.out.lt
  have hxWB := HWB_18.out.1
  have hyWB := HWB_18.out.2
  have hzWB := HWB_18.out.lt
  have hxXB0 := HXB0_18.out.1
  have hyXB0 := HXB0_18.out.2
  have hzXB0 := HXB0_18.out.lt
  have hxXB3 := HXB3_18.out.1
  have hyXB3 := HXB3_18.out.2
  have hzXB3 := HXB3_18.out.lt
  have hxGB := HGB_18.out.1
  have hyGB := HGB_18.out.2
  have hzGB := HGB_18.out.lt
  go_wp2_with fail
  refine (heldGraph_sees _ _ _ _ _ Hl1.out HK_18.out.sees).mono ?_
  rw [← Hmk.out]
  rintro e' w19 ⟨rfl, hb19⟩
  have HA0_19 := hid (HA0_18.out.on hb19)
  have HA3_19 := hid (HA3_18.out.on hb19)
  have HWB_19 := hid (HWB_18.out.on hb19)
  have HW_19 := hid (HW_18.out.on hb19)
  have HXB0_19 := hid (HXB0_18.out.on hb19)
  have HXB3_19 := hid (HXB3_18.out.on hb19)
  have HGB_19 := hid (HGB_18.out.on hb19)
  have HK_19 := hid (HK_18.out.on hb19)
  have HB19 := hid (bfrom HB18.out hb19)
  have hs19 : w18.heap.size ≤ w19.heap.size := by have h := hb19.size; omega
  clear hxA0 hyA0 hzA0 hxA3 hyA3 hzA3 hxWB hyWB hzWB hxXB0 hyXB0 hzXB0 hxXB3 hyXB3 hzXB3 hxGB hyGB hzGB
  clear HA0_18 HA3_18 HWB_18 HW_18 HXB0_18 HXB3_18 HGB_18 HK_18 HB18 hb19
  have hxA0 := HA0_19.out.1
  have hyA0 := HA0_19.out.2
  have hzA0 := HA0_19.out.lt
  have hxA3 := HA3_19.out.1
  have hyA3 := HA3_19.out.2
  have hzA3 := HA3_19.out.lt
  have hxWB := HWB_19.out.1
  have hyWB := HWB_19.out.2
  have hzWB := HWB_19.out.lt
  have hxXB0 := HXB0_19.out.1
  have hyXB0 := HXB0_19.out.2
  have hzXB0 := HXB0_19.out.lt
  have hxXB3 := HXB3_19.out.1
  have hyXB3 := HXB3_19.out.2
  have hzXB3 := HXB3_19.out.lt
  have hxGB := HGB_19.out.1
  have hyGB := HGB_19.out.2
  have hzGB := HGB_19.out.lt
  have hBN := HB19.out
  go_upto_region 31 with fail
  go_cut [23, 24] (fun bb uu wx => ∃ (B : Nat) (q : Option Addr) (cap : Nat), bb = .pointer (some ⟨B, 0, none⟩) ∧ uu = .int .i64 cd ∧ Hid (Box wx B t q l cap ∧ FreshE w19.heap.size wx q l cap L ∧ w19.heap.size ≤ B ∧ Below w19.heap.size w19 wx))
  case first =>
    go_region_held3 (fun w' => w'.cell? ⟨w.heap.size, 0, none⟩ = some (.int .i64 s0) ∧ w'.cell? ⟨w.heap.size, 1, none⟩ = some (.slice p0 n0 c0) ∧ w'.cell? ⟨w.heap.size + 1, 0, none⟩ = some (.int .i64 s3) ∧ w'.cell? ⟨w.heap.size + 1, 1, none⟩ = some (.slice p3 n3 c3))
      (first | go_keep | (go_split_ands; refine ⟨?_, ?_, ?_, ?_⟩ <;> first | assumption | (rw [two_sets_cell (by dsimp only; omega)]; assumption)))
      (first
        | (go_at_call_of 8 (Value.agg #[.int .i64 s0, .slice p0 n0 c0]); refine (toGraph_any _ _ _ _ es0 _ Hn0.out Hm0.out ?_).mono ?_; (exact Hr0.out.on (by go_grown)); rintro e' wa ⟨ga, rfl, hga, hoa, hba⟩; have HOA := hid hoa; have hBA : Below w19.heap.size w19 wa := bfrom (by have := Below.refl w19.heap.size w19; go_grown) hba; have hsA := hBA.size; obtain ⟨ha1, ha2⟩ := HA0_19.out.on hBA; obtain ⟨ha3, ha4⟩ := HA3_19.out.on hBA)
        | (go_at_call_of 8 (Value.agg #[.int .i64 s3, .slice p3 n3 c3]); refine (toGraph_any _ _ _ _ es3 _ Hn3.out Hm3.out ?_).mono ?_; (exact Hr3.out.on (bfrom (bfrom hBN hBA) (by have := Below.refl wa.heap.size wa; go_grown))); rintro e' wb ⟨gb, rfl, hgb, hob, hbb⟩; have HOB := hid hob; have hBB : Below w19.heap.size w19 wb := bfrom (bfrom hBA (by have := Below.refl wa.heap.size wa; go_grown)) hbb; have hsB := hBB.size; have hsAB := hbb.size; (try simp only [drew_size] at hsAB); (try simp only [World.size_alloc] at hsAB); obtain ⟨hbx1, hbx2⟩ := HA0_19.out.on hBB; obtain ⟨hbx3, hbx4⟩ := HA3_19.out.on hBB)
        | (go_at_call 9; refine (HI.out _ _ _ _ _ ?_ ?_).mono ?_; (exact (HOA.out.on (bfrom (bfrom (by have := Below.refl wa.heap.size wa; go_grown) hbb) (by have := Below.refl wb.heap.size wb; go_grown))).sees); (exact (HOB.out.on (by have := Below.refl wb.heap.size wb; go_grown)).sees); rintro e' wc ⟨q, cap, rfl, hf, hbc⟩; have HF := hid hf; have hBC : Below w19.heap.size w19 wc := bfrom (bfrom hBB (by have := Below.refl wb.heap.size wb; go_grown)) hbc; obtain ⟨hc1, hc2⟩ := HA0_19.out.on hBC; obtain ⟨hc3, hc4⟩ := HA3_19.out.on hBC; obtain ⟨hca, hfa⟩ := bcells hba; obtain ⟨hcb, hfb⟩ := bcells hbb; obtain ⟨hcc, hfc⟩ := bcells hbc; have hsC := hBC.size; have hsBC := hbc.size; (try simp only [drew_size] at hsBC); (try simp only [World.size_alloc] at hsBC); have hsWA := hba.size; (try simp only [drew_size] at hsWA); (try simp only [World.size_alloc] at hsWA); first | (have hB0 : wc.cell? ⟨wb.heap.size, 0, none⟩ = some (.int .i64 0) := (hcc _ _ (by first | omega | ((try simp only [drew_size]); (try simp only [World.size_alloc]); omega))).trans (by simp); have hB1 : wc.cell? ⟨wb.heap.size, 1, none⟩ = some (.slice none 0 0) := (hcc _ _ (by first | omega | ((try simp only [drew_size]); (try simp only [World.size_alloc]); omega))).trans (by simp); have hG0 : wc.frozen? ⟨wb.heap.size, 0, none⟩ = false := (hfc _ _ (by first | omega | ((try simp only [drew_size]); (try simp only [World.size_alloc]); omega))).trans (by simp); have hG1 : wc.frozen? ⟨wb.heap.size, 1, none⟩ = false := (hfc _ _ (by first | omega | ((try simp only [drew_size]); (try simp only [World.size_alloc]); omega))).trans (by simp); have hlB : wb.heap.size < wc.heap.size := (by have h := hbc.size; (try simp only [drew_size] at h); (try simp only [World.size_alloc] at h); omega)) | (have hB0 : wc.cell? ⟨wa.heap.size, 0, none⟩ = some (.int .i64 0) := (hcc _ _ (by first | omega | ((try simp only [drew_size]); (try simp only [World.size_alloc]); omega))).trans ((hcb _ _ (by first | omega | ((try simp only [drew_size]); (try simp only [World.size_alloc]); omega))).trans (by simp)); have hB1 : wc.cell? ⟨wa.heap.size, 1, none⟩ = some (.slice none 0 0) := (hcc _ _ (by first | omega | ((try simp only [drew_size]); (try simp only [World.size_alloc]); omega))).trans ((hcb _ _ (by first | omega | ((try simp only [drew_size]); (try simp only [World.size_alloc]); omega))).trans (by simp)); have hG0 : wc.frozen? ⟨wa.heap.size, 0, none⟩ = false := (hfc _ _ (by first | omega | ((try simp only [drew_size]); (try simp only [World.size_alloc]); omega))).trans ((hfb _ _ (by first | omega | ((try simp only [drew_size]); (try simp only [World.size_alloc]); omega))).trans (by simp)); have hG1 : wc.frozen? ⟨wa.heap.size, 1, none⟩ = false := (hfc _ _ (by first | omega | ((try simp only [drew_size]); (try simp only [World.size_alloc]); omega))).trans ((hfb _ _ (by first | omega | ((try simp only [drew_size]); (try simp only [World.size_alloc]); omega))).trans (by simp)); have hlB : wa.heap.size < wc.heap.size := (by have h := hbc.size; (try simp only [drew_size] at h); (try simp only [World.size_alloc] at h); omega)) | (have hB0 : wc.cell? ⟨w19.heap.size, 0, none⟩ = some (.int .i64 0) := (hcc _ _ (by first | omega | ((try simp only [drew_size]); (try simp only [World.size_alloc]); omega))).trans ((hcb _ _ (by first | omega | ((try simp only [drew_size]); (try simp only [World.size_alloc]); omega))).trans ((hca _ _ (by first | omega | ((try simp only [drew_size]); (try simp only [World.size_alloc]); omega))).trans (by simp))); have hB1 : wc.cell? ⟨w19.heap.size, 1, none⟩ = some (.slice none 0 0) := (hcc _ _ (by first | omega | ((try simp only [drew_size]); (try simp only [World.size_alloc]); omega))).trans ((hcb _ _ (by first | omega | ((try simp only [drew_size]); (try simp only [World.size_alloc]); omega))).trans ((hca _ _ (by first | omega | ((try simp only [drew_size]); (try simp only [World.size_alloc]); omega))).trans (by simp))); have hG0 : wc.frozen? ⟨w19.heap.size, 0, none⟩ = false := (hfc _ _ (by first | omega | ((try simp only [drew_size]); (try simp only [World.size_alloc]); omega))).trans ((hfb _ _ (by first | omega | ((try simp only [drew_size]); (try simp only [World.size_alloc]); omega))).trans ((hfa _ _ (by first | omega | ((try simp only [drew_size]); (try simp only [World.size_alloc]); omega))).trans (by simp))); have hG1 : wc.frozen? ⟨w19.heap.size, 1, none⟩ = false := (hfc _ _ (by first | omega | ((try simp only [drew_size]); (try simp only [World.size_alloc]); omega))).trans ((hfb _ _ (by first | omega | ((try simp only [drew_size]); (try simp only [World.size_alloc]); omega))).trans ((hfa _ _ (by first | omega | ((try simp only [drew_size]); (try simp only [World.size_alloc]); omega))).trans (by simp))); have hlB : w19.heap.size < wc.heap.size := (by have h := hbc.size; (try simp only [drew_size] at h); (try simp only [World.size_alloc] at h); omega)) | skip))
    all_goals
      go_wp2_with fail
      go_meet
      refine ⟨_, q, cap, rfl, rfl, hid ⟨?_, ?_, ?_, ?_⟩⟩
      · first
          | exact Box.new _ _ _ _ _ _
          | exact box_two hB0 hB1
      · first
          | exact (HF.out.on (on_alloc _ _)).less (by first | omega | (simp only [World.size_alloc]; omega))
          | exact ((HF.out.far (by first | (dsimp only; omega) | (simp only [World.size_alloc]; omega)) _).far (by first | (dsimp only; omega) | (simp only [World.size_alloc]; omega)) _).less (by first | omega | (simp only [World.size_alloc]; omega))
      · omega
      · first
          | exact hBC.alloc hBC.size _
          | exact (hBC.setCell (by dsimp only; omega) _).setCell (by dsimp only; omega) _
  case rest =>
  obtain ⟨BH, qH, capH, rfl, rfl, hcb⟩ := hcut
  obtain ⟨w20, rfl⟩ : ∃ w20, w20 = wc := ⟨_, rfl⟩
  obtain ⟨hbx, hfH, hsbH, hb20⟩ := hcb.out
  clear hcb hBN
  have HHB__20 := hid hbx
  have hlbH := hbx.lt
  clear hbx
  have HA0_20 := hid (HA0_19.out.on hb20)
  have HA3_20 := hid (HA3_19.out.on hb20)
  have HWB_20 := hid (HWB_19.out.on hb20)
  have HW_20 := hid (HW_19.out.on hb20)
  have HXB0_20 := hid (HXB0_19.out.on hb20)
  have HXB3_20 := hid (HXB3_19.out.on hb20)
  have HGB_20 := hid (HGB_19.out.on hb20)
  have HK_20 := hid (HK_19.out.on hb20)
  have HB20 := hid (bfrom HB19.out hb20)
  have hs20 : w19.heap.size ≤ w20.heap.size := by have h := hb20.size; omega
  clear hxA0 hyA0 hzA0 hxA3 hyA3 hzA3 hxWB hyWB hzWB hxXB0 hyXB0 hzXB0 hxXB3 hyXB3 hzXB3 hxGB hyGB hzGB
  clear HA0_19 HA3_19 HWB_19 HW_19 HXB0_19 HXB3_19 HGB_19 HK_19 HB19 hb20
  have HH_20 := hid hfH
  have hq := fun g h => hfH.own (g := g) h
  have QH := hid hq
  clear hfH hq
  have hxA0 := HA0_20.out.1
  have hyA0 := HA0_20.out.2
  have hzA0 := HA0_20.out.lt
  have hxA3 := HA3_20.out.1
  have hyA3 := HA3_20.out.2
  have hzA3 := HA3_20.out.lt
  have hxWB := HWB_20.out.1
  have hyWB := HWB_20.out.2
  have hzWB := HWB_20.out.lt
  have hxXB0 := HXB0_20.out.1
  have hyXB0 := HXB0_20.out.2
  have hzXB0 := HXB0_20.out.lt
  have hxXB3 := HXB3_20.out.1
  have hyXB3 := HXB3_20.out.2
  have hzXB3 := HXB3_20.out.lt
  have hxGB := HGB_20.out.1
  have hyGB := HGB_20.out.2
  have hzGB := HGB_20.out.lt
  have hxHB_ := HHB__20.out.1
  have hyHB_ := HHB__20.out.2
  have hzHB_ := HHB__20.out.lt
  go_wp2_with fail
  refine (eqGraph_self _ _ _ _ _ _ L _ HLl.out hl2 HH_20.out.sees HW_20.out.sees).mono ?_
  rintro e' w21 ⟨rfl, hb21⟩
  have HA0_21 := hid (HA0_20.out.on hb21)
  have HA3_21 := hid (HA3_20.out.on hb21)
  have HWB_21 := hid (HWB_20.out.on hb21)
  have HW_21 := hid (HW_20.out.on hb21)
  have HXB0_21 := hid (HXB0_20.out.on hb21)
  have HXB3_21 := hid (HXB3_20.out.on hb21)
  have HGB_21 := hid (HGB_20.out.on hb21)
  have HK_21 := hid (HK_20.out.on hb21)
  have HHB__21 := hid (HHB__20.out.on hb21)
  have HH_21 := hid (HH_20.out.on hb21)
  have HB21 := hid (bfrom HB20.out hb21)
  have hs21 : w20.heap.size ≤ w21.heap.size := by have h := hb21.size; omega
  clear hxA0 hyA0 hzA0 hxA3 hyA3 hzA3 hxWB hyWB hzWB hxXB0 hyXB0 hzXB0 hxXB3 hyXB3 hzXB3 hxGB hyGB hzGB hxHB_ hyHB_ hzHB_
  clear HA0_20 HA3_20 HWB_20 HW_20 HXB0_20 HXB3_20 HGB_20 HK_20 HHB__20 HH_20 HB20 hb21
  have hxA0 := HA0_21.out.1
  have hyA0 := HA0_21.out.2
  have hzA0 := HA0_21.out.lt
  have hxA3 := HA3_21.out.1
  have hyA3 := HA3_21.out.2
  have hzA3 := HA3_21.out.lt
  have hxWB := HWB_21.out.1
  have hyWB := HWB_21.out.2
  have hzWB := HWB_21.out.lt
  have hxXB0 := HXB0_21.out.1
  have hyXB0 := HXB0_21.out.2
  have hzXB0 := HXB0_21.out.lt
  have hxXB3 := HXB3_21.out.1
  have hyXB3 := HXB3_21.out.2
  have hzXB3 := HXB3_21.out.lt
  have hxGB := HGB_21.out.1
  have hyGB := HGB_21.out.2
  have hzGB := HGB_21.out.lt
  have hxHB_ := HHB__21.out.1
  have hyHB_ := HHB__21.out.2
  have hzHB_ := HHB__21.out.lt
  go_wp2_with fail
  refine (heldGraph_sees _ _ _ _ _ Hl1.out HK_21.out.sees).mono ?_
  rw [← Hmk.out]
  rintro e' w22 ⟨rfl, hb22⟩
  have HA0_22 := hid (HA0_21.out.on hb22)
  have HA3_22 := hid (HA3_21.out.on hb22)
  have HWB_22 := hid (HWB_21.out.on hb22)
  have HW_22 := hid (HW_21.out.on hb22)
  have HXB0_22 := hid (HXB0_21.out.on hb22)
  have HXB3_22 := hid (HXB3_21.out.on hb22)
  have HGB_22 := hid (HGB_21.out.on hb22)
  have HK_22 := hid (HK_21.out.on hb22)
  have HHB__22 := hid (HHB__21.out.on hb22)
  have HH_22 := hid (HH_21.out.on hb22)
  have HB22 := hid (bfrom HB21.out hb22)
  have hs22 : w21.heap.size ≤ w22.heap.size := by have h := hb22.size; omega
  clear hxA0 hyA0 hzA0 hxA3 hyA3 hzA3 hxWB hyWB hzWB hxXB0 hyXB0 hzXB0 hxXB3 hyXB3 hzXB3 hxGB hyGB hzGB hxHB_ hyHB_ hzHB_
  clear HA0_21 HA3_21 HWB_21 HW_21 HXB0_21 HXB3_21 HGB_21 HK_21 HHB__21 HH_21 HB21 hb22
  go_wp2
  go_ret
  exact ⟨rfl, HB22.out⟩

theorem lawDotProduct_any (s0 : Int) (p0 : Option Addr) (n0 c0 : Nat) (es0 : List (Int × Int)) (x1 : Int) (x2 : Int) (s3 : Int) (p3 : Option Addr) (n3 c3 : Nat) (es3 : List (Int × Int)) (x4 : Int) (x5 : Int) (w : World) (hn0 : es0.length = n0) (hl0 : n0 ≤ 9223372036854775807) (hr0 : SeesE w p0 es0) (_ : (Lit.int .i64 x1).wf = true) (_ : (Lit.int .i64 x2).wf = true) (hn3 : es3.length = n3) (hl3 : n3 ≤ 9223372036854775807) (hr3 : SeesE w p3 es3) (_ : (Lit.int .i64 x4).wf = true) (_ : (Lit.int .i64 x5).wf = true) :
    Calls Try.prog 3 #[.agg #[.int .i64 s0, .slice p0 n0 c0], .int .i64 x1, .int .i64 x2, .agg #[.int .i64 s3, .slice p3 n3 c3], .int .i64 x4, .int .i64 x5] w fun e' w' => e' = .returned (.bool true) ∧ Below w.heap.size w w' := by
  rcases Nat.lt_or_ge 1048576 (n0) with h0 | h0
  · exact lawDotProduct_big0 s0 p0 n0 c0 x1 x2 s3 p3 n3 c3 x4 x5 w hl0 (by omega)
  rcases Nat.lt_or_ge 1048576 (n0 + n3) with h3 | h3
  · exact lawDotProduct_big3 s0 p0 n0 c0 x1 x2 s3 p3 n3 c3 x4 x5 w hl0 hl3 h0 (by omega)
  exact lawDotProduct_small s0 p0 n0 c0 es0 x1 x2 s3 p3 n3 c3 es3 x4 x5 w hn0 (by omega) hr0 hn3 (by omega) hr3 h3

end Go.Proofs.Ytfdlhdgmbjdhbaa
