/- Two graphs beside each other, in the program. -/
import Derived.Test.YtkcljjbjlhageaaClone
import Derived.Test.YtkcljjbjlhageaaImplG
import Derived.Test.YtkcljjbjlhageaaLawsD
import Derived.Test.YtkcljjbjlhageaaOnce
namespace Go.Proofs.Ytkcljjbjlhageaa
open Go.RowKit

theorem news_pair' (w : World) (X Y : Int) (t : TypeId) (o : Obj) (g : Nat) (hg : g = w.heap.size + 1) :
    ∀ (j : Nat) (u : Value), [Value.int .i64 X, Value.int .i64 Y][j]? = some u → ((w.alloc o).alloc (.cells #[.int .i64 X, .int .i64 Y] t)).cell? ((⟨g, 0, none⟩ : Addr).add j) = some u := fun j u h => news_pair w X Y t o g hg j u h

theorem free_new (w : World) (c : Array Value) (t : TypeId) (o : Nat) (b : Nat) (hb : b = w.heap.size) : (w.alloc (.cells c t)).frozen? ⟨b, o, none⟩ = false := by subst hb; simp

set_option maxRecDepth 100000 in
set_option maxHeartbeats 4000000 in
theorem iBeside_yes (s t : Int) (b1 o1 n1 c1 b2 o2 n2 c2 : Nat) (xs ys : List (Int × Int)) (w : World) (h1 : xs.length = n1) (h2 : ys.length = n2) (m1 : n1 ≤ 1048576) (m2 : n2 ≤ 1048576) (r1 : ReadsE w b1 o1 xs) (r2 : ReadsE w b2 o2 ys) (g1 : IsG s xs) (g2 : IsG t ys) (hst : s + t ≤ 20) :
    Calls Try.prog 42 #[.agg #[.int .i64 s, .slice (some ⟨b1, o1, none⟩) n1 c1], .agg #[.int .i64 t, .slice (some ⟨b2, o2, none⟩) n2 c2]] w fun e w' => ∃ q cap, e = .returned (.tuple #[.agg #[.int .i64 (s + t), .slice q (n1 + n2) cap], .int .i64 0]) ∧ FreshE w.heap.size w' q (n1 + n2) cap (xs ++ upE s ys) ∧ Below w.heap.size w w' := by
  have H1 := hid h1
  have H2 := hid h2
  have M1 := hid m1
  have M2 := hid m2
  have R1 := hid r1
  have R2 := hid r2
  have G1 := hid g1
  have G2 := hid g2
  have e1 : IntKind.i64.wrap (s + t) = s + t := IntWalk.i64_in _ (by have := g1.1.1.1; have := g1.1.1.2.1; have := g2.1.1.1; have := g2.1.1.2.1; omega)
  have e2 : decide ((20 : Int) < s + t) = false := by simp; omega
  clear h1 h2 m1 m2 r1 r2 g1 g2
  go_enter Try.func42, Try.ntmps42
  go_wp2_with fail
  have hb0 : Below w.heap.size w (((w.alloc (.cells #[.int .i64 s, .slice (some ⟨b1, o1, none⟩) n1 c1] 31)).alloc (.cells #[.int .i64 t, .slice (some ⟨b2, o2, none⟩) n2 c2] 31)).alloc (.cells #[.int .i64 0, .slice none 0 0] 31)) := bfrom (bfrom (on_alloc _ _) (on_alloc _ _)) (on_alloc _ _)
  have HG0 := hid (((Box.new w s (some ⟨b1, o1, none⟩) n1 c1 31).on (on_alloc _ (.cells #[.int .i64 t, .slice (some ⟨b2, o2, none⟩) n2 c2] 31))).on (on_alloc _ (.cells #[.int .i64 0, .slice none 0 0] 31)))
  have HH0 : Hid (Box (((w.alloc (.cells #[.int .i64 s, .slice (some ⟨b1, o1, none⟩) n1 c1] 31)).alloc (.cells #[.int .i64 t, .slice (some ⟨b2, o2, none⟩) n2 c2] 31)).alloc (.cells #[.int .i64 0, .slice none 0 0] 31)) (w.heap.size + 1) t (some ⟨b2, o2, none⟩) n2 c2) := by
    have h := (Box.new (w.alloc (.cells #[.int .i64 s, .slice (some ⟨b1, o1, none⟩) n1 c1] 31)) t (some ⟨b2, o2, none⟩) n2 c2 31).on (on_alloc _ (.cells #[.int .i64 0, .slice none 0 0] 31))
    rw [show (w.alloc (.cells #[.int .i64 s, .slice (some ⟨b1, o1, none⟩) n1 c1] 31)).heap.size = w.heap.size + 1 by simp] at h
    exact h
  have HK0 : Hid (Box (((w.alloc (.cells #[.int .i64 s, .slice (some ⟨b1, o1, none⟩) n1 c1] 31)).alloc (.cells #[.int .i64 t, .slice (some ⟨b2, o2, none⟩) n2 c2] 31)).alloc (.cells #[.int .i64 0, .slice none 0 0] 31)) (w.heap.size + 1 + 1) 0 none 0 0) := by
    have h := Box.new ((w.alloc (.cells #[.int .i64 s, .slice (some ⟨b1, o1, none⟩) n1 c1] 31)).alloc (.cells #[.int .i64 t, .slice (some ⟨b2, o2, none⟩) n2 c2] 31)) 0 none 0 0 31
    rw [show ((w.alloc (.cells #[.int .i64 s, .slice (some ⟨b1, o1, none⟩) n1 c1] 31)).alloc (.cells #[.int .i64 t, .slice (some ⟨b2, o2, none⟩) n2 c2] 31)).heap.size = w.heap.size + 1 + 1 by simp] at h
    exact h
  refine (iIsGraph_any _ _ _ _ xs _ M1.out H1.out (.inr ⟨b1, o1, rfl, R1.out.on hb0⟩)).mono ?_
  rw [decide_eq_true G1.out]
  rintro e w2 ⟨rfl, hb2⟩
  obtain ⟨hc2, hf2⟩ := bcells hb2
  go_wp2_with fail
  refine (iIsGraph_any _ _ _ _ ys _ M2.out H2.out (.inr ⟨b2, o2, rfl, (R2.out.on hb0).on hb2⟩)).mono ?_
  rw [decide_eq_true G2.out]
  rintro e w3 ⟨rfl, hb3⟩
  obtain ⟨hc3, hf3⟩ := bcells (bfrom hb2 hb3)
  have hB3 := hid (bfrom hb0 (bfrom hb2 hb3))
  have hz3 : w.heap.size + 1 + 1 < w3.heap.size := by have h := (bfrom hb2 hb3).size; simp at h; omega
  clear hc2 hf2
  go_wp2_with fail
  refine (cloneE_row b1 o1 n1 c1 xs _ H1.out M1.out (R1.out.on hB3.out)).mono ?_
  rintro e w4 ⟨v4, rfl, ho4, hn4, hb4⟩
  obtain ⟨hc4, hf4⟩ := bcells (bfrom (bfrom hb2 hb3) hb4)
  have hB4 := hid (bfrom hB3.out hb4)
  have hz4 : w.heap.size + 1 + 1 < w4.heap.size := by have h := hb4.size; omega
  have HO4 := hid ho4
  clear hc3 hf3 ho4
  obtain ⟨q4, cap4, rfl⟩ : ∃ q cap, v4 = .slice q n1 cap := by
    rcases HO4.out.2 with ⟨rfl, h0⟩ | ⟨g, cap, cur, rfl, _⟩
    · exact ⟨none, 0, by rw [h0]⟩
    · exact ⟨_, _, rfl⟩
  have R4 := hid (R2.out.on hB4.out)
  have HG4 := hid (((HG0.out.on hb2).on hb3).on hb4)
  have HH4 := hid (((HH0.out.on hb2).on hb3).on hb4)
  have HK4 := hid (((HK0.out.on hb2).on hb3).on hb4)
  have hx4 := HG4.out.1
  have hy4 := HH4.out.2
  have hY4 := HH4.out.1
  have hf4a : w4.frozen? ⟨w.heap.size + 1 + 1, 0, none⟩ = false := (hf4 (w.heap.size + 1 + 1) 0 (by simp)).trans (free_new _ _ _ _ _ (by simp))
  have hf4b : w4.frozen? ⟨w.heap.size + 1 + 1, 1, none⟩ = false := (hf4 (w.heap.size + 1 + 1) 1 (by simp)).trans (free_new _ _ _ _ _ (by simp))
  obtain ⟨i0, hi, hz0, hz1, hz2⟩ := info_parts infoEdge
  have Hi := hid hi
  have HS := hid (show w.heap.size + 1 + 1 < w3.heap.size from hz3)
  have HB43 := hid hb4.size
  clear hc4 hf4 hb0 hb2 hb3 hb4 hi HG0 HH0 HK0
  go_wp2
  go_loopw [6, 31] (fun v i wr => ∃ (k cap : Nat) (q : Option Addr), k ≤ n2 ∧ v = .slice q (n1 + k) cap ∧ i = .int .i64 k ∧ Hid (wr.ownsRow w3.heap.size 74 2 (.slice q (n1 + k) cap) (n1 + k) (edgeVals (xs ++ upE s (ys.take k)))) ∧ Hid (Below w3.heap.size w4 wr)) (fun _ i _ => n2 - (intOf i).toNat)
  case atStart => exact ⟨0, cap4, q4, Nat.zero_le _, rfl, rfl, hid (by simpa [upE] using HO4.out), hid (Below.refl _ _)⟩
  case round =>
    obtain ⟨k, cap, q, hk, rfl, rfl, hO, hB⟩ := hrel
    have hx := (hB.out.cell (p := ⟨w.heap.size, 0, none⟩) (by have := HS.out; show w.heap.size < _; omega)).trans hx4
    by_cases hlt : k < n2
    · have hbb : b2 < w.heap.size := reads_lt R2.out (by have := H2.out; omega)
      have hc1 := (hB.out.cell (p := ⟨b2, o2 + k * 2, none⟩) (by have := HS.out; show b2 < _; omega)).trans (R4.out k (by have := H2.out; omega)).1
      have hc2 := (hB.out.cell (p := ⟨b2, o2 + k * 2 + 1, none⟩) (by have := HS.out; show b2 < _; omega)).trans (R4.out k (by have := H2.out; omega)).2
      have hbr : b2 < wr.heap.size := by have := hB.out.size; have := HS.out; have := HB43.out; omega
      have hwr : w.heap.size < wr.heap.size := by have := hB.out.size; have := HS.out; have := HB43.out; omega
      obtain ⟨wo, rfl⟩ : ∃ wo : World, wo = wr := ⟨_, rfl⟩
      have hok := G2.out.1.2 k (by have := H2.out; omega)
      have hsz1 := G1.out.1.1
      have hsz2 := G2.out.1.1
      have ew1 : IntKind.i64.wrap (eA ys k + s) = eA ys k + s := IntWalk.i64_in _ (by have := hok.1; have := hok.2.1; have := hsz1.1; have := hsz1.2.1; have := hsz2.2.1; omega)
      have ew2 : IntKind.i64.wrap (eB ys k + s) = eB ys k + s := IntWalk.i64_in _ (by have := hok.2.2.1; have := hok.2.2.2.1; have := hsz1.1; have := hsz1.2.1; have := hsz2.2.1; omega)
      clear hok hsz1 hsz2
      have hl0 : n1 + k < 2097153 := by have := M1.out; have := M2.out; omega
      go_wp2_with (at_builtin; go_must (refine wpList_append_lies _ rfl (.tmp 35) (.tmp 47) 29 rfl w3.heap.size 74 i0 (.agg #[.int .i64 0, .int .i64 0]) 2 16 Try.underlying29 Hi.out hz0 hz1 hz2 rfl (by decide) (.slice q (n1 + k) cap) (n1 + k) _ rfl ((hO.out.alloc _).alloc _) ⟨wo.heap.size + 1, 0, none⟩ 1 1 [.int .i64 (eA ys k + s), .int .i64 (eB ys k + s)] rfl rfl (news_pair' wo _ _ _ _ _ rfl) (one_pair _ _) (by decide) (by unfold maxLen; omega) (by omega) (by have := hB.out.size; have := HB43.out; simp; omega) (wo.heap.size + 1 + 1) (by simp) ?_); intro g cap' w1 hown1 hgrow1 hlie hg1; have Hown := hid hown1; have Hgrow := hid hgrow1; have Hlie := hid hlie; clear hown1 hgrow1 hlie)
      go_roundw
      case rel =>
        have hrow : ∀ j, (Value.slice q (n1 + k) cap).ownBlock = some j → w3.heap.size ≤ j ∧ j < wo.heap.size := hO.out.lt
        have hbs : w3.heap.size ≤ wo.heap.size := by have := hB.out.size; have := HB43.out; omega
        refine ⟨k + 1, cap', some ⟨g, 0, none⟩, by omega, rfl, by go_num, hid ?_, hid ?_⟩
        · rw [upE_step (by have := H2.out; omega), ← List.append_assoc, edgeVals_append]; exact Hown.out
        · exact (((hB.out.alloc hbs _).alloc (by simp; omega) _)).grown Hgrow.out (by simp; omega) (fun j hj => (hrow j hj).1)
      case measure => first | (simp [intOf]; done) | (simp [intOf]; omega)
    · obtain rfl : k = n2 := by omega
      have hyr := (hB.out.cell (p := ⟨w.heap.size + 1, 0, none⟩) (by have := HS.out; show w.heap.size + 1 < _; omega)).trans hY4
      have hfa := (hB.out.frozen (p := ⟨w.heap.size + 1 + 1, 0, none⟩) HS.out).trans hf4a
      have hfb := (hB.out.frozen (p := ⟨w.heap.size + 1 + 1, 1, none⟩) HS.out).trans hf4b
      have hwr : w.heap.size + 1 + 1 < wr.heap.size := by have := hB.out.size; have := HS.out; have := HB43.out; omega
      have hra := (hB.out.cell (p := ⟨w.heap.size + 1 + 1, 0, none⟩) HS.out).trans HK4.out.1
      have hrb := (hB.out.cell (p := ⟨w.heap.size + 1 + 1, 1, none⟩) HS.out).trans HK4.out.2
      go_wp2
      refine bodyPost_ret (v := .tuple #[.agg #[.int .i64 (s + t), .slice q (n1 + k) cap], .int .i64 0]) (by simp [results, Try.results42, go_sem, hra, hrb]) rfl ⟨q, cap, rfl, ?_, ?_⟩
      · have hF : FreshE w3.heap.size wr q (n1 + k) cap (xs ++ upE s ys) := ⟨by have h := hO.out; rw [List.take_of_length_le (by have := H2.out; omega)] at h; exact h, by rw [List.length_append, upE_length, H1.out, H2.out]⟩
        exact ((hF.far HS.out _).far HS.out _).less (by have := HS.out; omega)
      · exact ((hB4.out.trans (hB.out.mono (by have := HS.out; omega))).setCell (p := ⟨w.heap.size + 1 + 1, 0, none⟩) (by show w.heap.size ≤ w.heap.size + 1 + 1; omega) _).setCell (p := ⟨w.heap.size + 1 + 1, 1, none⟩) (by show w.heap.size ≤ w.heap.size + 1 + 1; omega) _

end Go.Proofs.Ytkcljjbjlhageaa
