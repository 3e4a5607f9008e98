/- Two graphs beside each other, in the model. -/
import Derived.Test.YtkcljjbjlhageaaBesideB
import Derived.Test.YtkcljjbjlhageaaSpecF
import Derived.StillTailTactics
import Derived.Deep.RegionHeld3
namespace Go.Proofs.Ytkcljjbjlhageaa
open Go.RowKit Go.Lib

theorem row_made3 (w : World) (o1 o2 o3 : Obj) : ((((w.alloc o1).alloc o2).alloc o3).alloc (.cells #[] 74)).ownsRow (w.heap.size + 1 + 1 + 1) 74 2 (.slice (some ⟨w.heap.size + 1 + 1 + 1, 0, none⟩) 0 0) 0 [] := by
  have h := World.ownsRow_made (base := w.heap.size + 1 + 1 + 1) (e := 74) (size := 2) (((w.alloc o1).alloc o2).alloc o3) #[] 0 (by simp only [World.size_alloc]; omega) (Nat.zero_le _) rfl
  simpa only [World.size_alloc] using h

theorem news_one (w : World) (X Y : Int) (t : TypeId) (g : Nat) (hg : g = w.heap.size) :
    ∀ (j : Nat) (u : Value), [Value.int .i64 X, Value.int .i64 Y][j]? = some u → ((w.alloc (.cells #[.int .i64 X, .int .i64 Y] t)).drew).cell? ((⟨g, 0, none⟩ : Addr).add j) = some u := fun j u hu => by
  subst hg
  rw [Addr.add_lit, Nat.zero_add]
  show (w.alloc (.cells #[.int .i64 X, .int .i64 Y] t)).cell? _ = _
  rw [cell_of_row _ _ j _ _ _ (heap_alloc_new w (.cells #[.int .i64 X, .int .i64 Y] t))]
  simpa using hu

set_option maxRecDepth 100000 in
set_option maxHeartbeats 4000000 in
theorem sBeside_any (s t : Int) (b1 o1 n1 c1 b2 o2 n2 c2 : Nat) (xs ys : List (Int × Int)) (w : World) (h1 : xs.length = n1) (h2 : ys.length = n2) (m1 : n1 ≤ 30) (m2 : n2 ≤ 30) (r1 : ReadsE w b1 o1 xs) (r2 : ReadsE w b2 o2 ys) (g1 : IsG s xs) (g2 : IsG t ys) :
    Calls Try.prog 71 #[.agg #[.int .i64 s, .slice (some ⟨b1, o1, none⟩) n1 c1], .agg #[.int .i64 t, .slice (some ⟨b2, o2, none⟩) n2 c2]] w fun e w' => ∃ q cap, e = .returned (.agg #[.int .i64 (s + t), .slice q (n1 + n2) cap]) ∧ FreshE w.heap.size w' q (n1 + n2) cap (xs ++ upE s ys) ∧ Below w.heap.size w w' := by
  have H1 := hid h1
  have H2 := hid h2
  have R1 := hid r1
  have R2 := hid r2
  have G1 := hid g1
  have G2 := hid g2
  have e1 : IntKind.i64.wrap (s + t) = s + t := IntWalk.i64_in _ (by have := g1.1.1.1; have := g1.1.1.2.1; have := g2.1.1.1; have := g2.1.1.2.1; omega)
  obtain ⟨i0, hi, hz0, hz1, hz2⟩ := info_parts infoEdge
  have Hi := hid hi
  clear h1 h2 r1 r2 g1 g2 hi
  go_enter Try.func71, Try.ntmps71
  go_wp2_with (at_builtin; refine wpList_append_own _ rfl _ _ 29 rfl (w.heap.size + 1 + 1 + 1) 74 i0 (.agg #[.int .i64 0, .int .i64 0]) 2 16 Try.underlying29 Hi.out hz0 hz1 hz2 rfl (by decide) (.slice (some ⟨w.heap.size + 1 + 1 + 1, 0, none⟩) 0 0) 0 [] rfl ?own ⟨b1, o1, none⟩ n1 c1 (edgeVals xs) rfl ?qc1 ?qc2 ?qc3 ?qc4 ?qc5 ?qc6 ?_)
  case own => exact row_made3 _ _ _ _
  case qc1 => rw [edgeVals_length, H1.out]
  case qc2 =>
    intro j u hj
    rw [Addr.add_lit]
    exact Lib.cell?_alloc_some _ (Lib.cell?_alloc_some _ (Lib.cell?_alloc_some _ (Lib.cell?_alloc_some _ (reads_vals R1.out j u hj))))
  case qc3 => exact vals_one xs
  case qc4 => unfold maxLen; omega
  case qc5 => omega
  case qc6 => simp
  intro v4 w4 ho4 hg4 _
  try simp only [Nat.zero_add, List.nil_append] at ho4
  obtain ⟨q4, cap4, rfl⟩ : ∃ q cap, v4 = .slice q n1 cap := by
    rcases ho4.2 with ⟨rfl, h0⟩ | ⟨g, cap, cur, rfl, _⟩
    · exact ⟨none, 0, by rw [h0]⟩
    · exact ⟨_, _, rfl⟩
  have HO4 := hid ho4
  have hb0 : Below w.heap.size w ((((w.alloc (.cells #[.int .i64 s, .slice (some ⟨b1, o1, none⟩) n1 c1] 31)).alloc (.cells #[.int .i64 t, .slice (some ⟨b2, o2, none⟩) n2 c2] 31)).alloc (.cells #[.int .i64 0, .slice none 0 0] 31)).alloc (.cells #[] 74)) := bfrom (bfrom (bfrom (on_alloc _ _) (on_alloc _ _)) (on_alloc _ _)) (on_alloc _ _)
  have HB4 := hid (hb0.grown hg4 (by simp; omega) (fun k hk => by have h := Option.some.inj hk; simp at h; omega))
  have HG4 : Hid (Box w4 w.heap.size s (some ⟨b1, o1, none⟩) n1 c1) := hid ((((Box.new w s (some ⟨b1, o1, none⟩) n1 c1 31).on (on_alloc _ _)).on (on_alloc _ _)).on (on_alloc _ _) |>.kept hg4 (fun h => by have h' := Option.some.inj h; simp at h'; omega))
  have HH4 : Hid (Box w4 (w.heap.size + 1) t (some ⟨b2, o2, none⟩) n2 c2) := hid (by
    have h := ((Box.new (w.alloc (.cells #[.int .i64 s, .slice (some ⟨b1, o1, none⟩) n1 c1] 31)) t (some ⟨b2, o2, none⟩) n2 c2 31).on (on_alloc _ (.cells #[.int .i64 0, .slice none 0 0] 31))).on (on_alloc _ (.cells #[] 74))
    simp only [World.size_alloc] at h
    exact h.kept hg4 (fun h => by have h' := Option.some.inj h; first | omega | (simp at h'; done) | (simp at h'; omega)))
  have HK4 : Hid (Box w4 (w.heap.size + 1 + 1) 0 none 0 0) := hid (by
    have h := (Box.new ((w.alloc (.cells #[.int .i64 s, .slice (some ⟨b1, o1, none⟩) n1 c1] 31)).alloc (.cells #[.int .i64 t, .slice (some ⟨b2, o2, none⟩) n2 c2] 31)) 0 none 0 0 31).on (on_alloc _ (.cells #[] 74))
    simp only [World.size_alloc] at h
    exact h.kept hg4 (fun h => by have h' := Option.some.inj h; first | omega | (simp at h'; done) | (simp at h'; omega)))
  have hz4 : w.heap.size + 1 + 1 + 1 < w4.heap.size := by have h := hg4.size; simp at h; omega
  have hf4a : w4.frozen? ⟨w.heap.size + 1 + 1, 0, none⟩ = false := (hg4.frozen_far ⟨w.heap.size + 1 + 1, 0, none⟩ (by simp) (fun h => by have h' := Option.some.inj h; first | omega | (simp at h'; done) | (simp at h'; omega))).trans (((bcells (on_alloc _ _)).2 _ _ (by simp)).trans (free_new _ _ _ _ _ (by simp)))
  have hf4b : w4.frozen? ⟨w.heap.size + 1 + 1, 1, none⟩ = false := (hg4.frozen_far ⟨w.heap.size + 1 + 1, 1, none⟩ (by simp) (fun h => by have h' := Option.some.inj h; first | omega | (simp at h'; done) | (simp at h'; omega))).trans (((bcells (on_alloc _ _)).2 _ _ (by simp)).trans (free_new _ _ _ _ _ (by simp)))
  have R4 := hid (R2.out.on HB4.out)
  have hx4 := HG4.out.1
  have hy4 := HH4.out.2
  have hY4 := HH4.out.1
  clear ho4 hg4 hb0
  go_wp2
  go_loopw [5, 6] (fun v i wr => ∃ (k cap : Nat) (q : Option Addr), k ≤ n2 ∧ v = .slice q (n1 + k) cap ∧ i = .int .i64 k ∧ Hid (wr.ownsRow (w.heap.size + 1 + 1 + 1) 74 2 (.slice q (n1 + k) cap) (n1 + k) (edgeVals (xs ++ upE s (ys.take k)))) ∧ Hid (Below w.heap.size w wr) ∧ Hid (Box wr w.heap.size s (some ⟨b1, o1, none⟩) n1 c1 ∧ Box wr (w.heap.size + 1) t (some ⟨b2, o2, none⟩) n2 c2 ∧ Box wr (w.heap.size + 1 + 1) 0 none 0 0) ∧ wr.frozen? ⟨w.heap.size + 1 + 1, 0, none⟩ = false ∧ wr.frozen? ⟨w.heap.size + 1 + 1, 1, none⟩ = false ∧ w.heap.size + 1 + 1 + 1 < wr.heap.size) (fun _ i _ => n2 - (intOf i).toNat)
  case atStart => exact ⟨0, cap4, q4, Nat.zero_le _, rfl, rfl, hid (by simpa [upE] using HO4.out), HB4, hid ⟨HG4.out, HH4.out, HK4.out⟩, hf4a, hf4b, hz4⟩
  case round =>
    obtain ⟨k, cap, q, hk, rfl, rfl, hO, hB, hX, hfa, hfb, hzr⟩ := hrel
    have hx := hX.out.1.1
    have hy := hX.out.2.1.2
    have hY := hX.out.2.1.1
    by_cases hlt : k < n2
    · have hbb : b2 < w.heap.size := reads_lt R2.out (by have := H2.out; omega)
      have hc1 := (R2.out.on hB.out k (by have := H2.out; omega)).1
      have hc2 := (R2.out.on hB.out k (by have := H2.out; omega)).2
      obtain ⟨wo, rfl⟩ : ∃ wo : World, wo = wr := ⟨_, rfl⟩
      have hok := G2.out.1.2 k (by have := H2.out; omega)
      have hsz1 := G1.out.1.1
      have hsz2 := G2.out.1.1
      have ew1 : IntKind.i64.wrap (eA ys k + s) = eA ys k + s := IntWalk.i64_in _ (by have := hok.1; have := hok.2.1; have := hsz1.1; have := hsz1.2.1; have := hsz2.2.1; omega)
      have ew2 : IntKind.i64.wrap (eB ys k + s) = eB ys k + s := IntWalk.i64_in _ (by have := hok.2.2.1; have := hok.2.2.2.1; have := hsz1.1; have := hsz1.2.1; have := hsz2.2.1; omega)
      clear hok hsz1 hsz2
      have hag : ∀ x, x < w.heap.size + 1 + 1 + 1 → (Value.slice q (n1 + k) cap).ownBlock ≠ some x := fun x hx h => by have := (hO.out.lt _ h).1; omega
      have ag := hag (w.heap.size + 1) (by omega)
      have ah := hag w.heap.size (by omega)
      have ab := hag b2 (by omega)
      have lb : b2 < wo.heap.size := by omega
      clear hag
      go_wp2
      go_region_held3 (fun w' => w'.cell? ⟨w.heap.size + 1, 1, none⟩ = some (.slice (some ⟨b2, o2, none⟩) n2 c2) ∧ w'.cell? ⟨w.heap.size, 0, none⟩ = some (.int .i64 s) ∧ w'.cell? ⟨b2, o2 + k * 2, none⟩ = some (.int .i64 (eA ys k)) ∧ w'.cell? ⟨b2, o2 + k * 2 + 1, none⟩ = some (.int .i64 (eB ys k)))
        (first
          | go_keep
          | (go_split_ands
             refine ⟨?_, ?_, ?_, ?_⟩
             · (rw [hgrow.cell_far _ (by simp; omega) (Ne.symm ag)]; assumption)
             · (rw [hgrow.cell_far _ (by simp; omega) (Ne.symm ah)]; assumption)
             · (rw [hgrow.cell_far _ (by simp; omega) (Ne.symm ab)]; assumption)
             · (rw [hgrow.cell_far _ (by simp; omega) (Ne.symm ab)]; assumption)))
        ((refine step_append_lies _ (by rfl) _ _ _ (by rfl) (w.heap.size + 1 + 1 + 1) 74 i0 _ 2 16 Try.underlying29 Hi.out hz0 hz1 hz2 rfl (by omega) (.slice q (n1 + k) cap) (n1 + k) _ (by rfl) ((hO.out.alloc _).drew)
            ⟨wo.heap.size, 0, none⟩ 1 1 [.int .i64 (eA ys k + s), .int .i64 (eB ys k + s)] (by rfl) (by rfl) (World.news_of_block (cs := #[.int .i64 (eA ys k + s), .int .i64 (eB ys k + s)]) (t := 74) (fr := (0, 0)) (heap_alloc_new wo _)) (by simp [Value.oneCell'])
            (by omega) (by unfold maxLen; omega) (by omega) (by simp; omega) (wo.heap.size + 1) (by simp) ?_; intro gg cap' w1 hown1 hgrow hat hlt'))
      have hrow : ∀ j, (Value.slice q (n1 + k) cap).ownBlock = some j → w.heap.size + 1 + 1 + 1 ≤ j ∧ j < wo.heap.size := hO.out.lt
      go_wp2
      go_roundw
      case rel =>
        refine ⟨k + 1, cap', some ⟨gg, 0, none⟩, by omega, rfl, by go_num, hid ?_, hid ?_, hid ⟨?_, ?_, ?_⟩, ?_, ?_, ?_⟩
        · rw [upE_step (by have := H2.out; omega), ← List.append_assoc, edgeVals_append]; exact hown1
        · exact (((hB.out.alloc hB.out.size _).drew).grown hgrow (by simp; omega) (fun j hj => by have := (hrow j hj).1; omega))
        · exact ((hX.out.1.on (on_alloc _ _)).drew).kept hgrow (fun h => by have := (hrow _ h.symm).1; omega)
        · exact ((hX.out.2.1.on (on_alloc _ _)).drew).kept hgrow (fun h => by have := (hrow _ h.symm).1; omega)
        · exact ((hX.out.2.2.on (on_alloc _ _)).drew).kept hgrow (fun h => by have := (hrow _ h.symm).1; omega)
        · exact (hgrow.frozen_far ⟨w.heap.size + 1 + 1, 0, none⟩ (by simp; omega) (fun h => by have h' := (hrow _ h.symm).1; simp at h'; omega)).trans (((bcells (on_alloc wo _)).2 _ _ (by omega)).trans hfa)
        · exact (hgrow.frozen_far ⟨w.heap.size + 1 + 1, 1, none⟩ (by simp; omega) (fun h => by have h' := (hrow _ h.symm).1; simp at h'; omega)).trans (((bcells (on_alloc wo _)).2 _ _ (by omega)).trans hfb)
        · have := hgrow.size; simp at this; omega
      case measure => simp [intOf]; omega
    · obtain rfl : k = n2 := by omega
      have hF : FreshE (w.heap.size + 1 + 1 + 1) wr q (n1 + k) cap (xs ++ upE s ys) := ⟨by have h := hO.out; rw [List.take_of_length_le (by have := H2.out; omega)] at h; exact h, by rw [List.length_append, upE_length, H1.out, H2.out]⟩
      obtain ⟨gq, rfl, hgq, hoq⟩ : ∃ g, q = some ⟨g, 0, none⟩ ∧ w.heap.size + 1 + 1 + 1 ≤ g ∧ OwnE wr g cap (xs ++ upE s ys) := by
        rcases hF.form with ⟨_, h0, _, _⟩ | h
        · have := G1.out.1.1.2.2.2; have := G1.out.1.1.1; have := H1.out; omega
        · exact h
      have HF := hid hF
      have HQ := hid hoq.reads
      have hza : w.heap.size < wr.heap.size := by omega
      have hzb : w.heap.size + 1 < wr.heap.size := by omega
      clear hF hoq
      go_wp2_with fail
      refine (sMade_any _ _ _ _ _ (xs ++ upE s ys) _ (by omega) (by rw [List.length_append, upE_length, H1.out, H2.out]) HQ.out).mono ?_
      rw [sortE_beside G1.out G2.out]
      rintro e w6 ⟨q6, cap6, rfl, hf6, hb6⟩
      have HF6 := hid hf6
      have hra := ((bcells hb6).1 _ _ (by omega)).trans hX.out.2.2.1
      have hrb := ((bcells hb6).1 _ _ (by omega)).trans hX.out.2.2.2
      have hfa6 := ((bcells hb6).2 _ _ (by omega)).trans hfa
      have hfb6 := ((bcells hb6).2 _ _ (by omega)).trans hfb
      have hz6 : w.heap.size + 1 + 1 < w6.heap.size := by have := hb6.size; omega
      clear hf6
      go_wp2
      refine bodyPost_ret (v := .agg #[.int .i64 (s + t), .slice q6 (n1 + k) cap6]) (by simp [results, Try.results71, go_sem, hra, hrb]) rfl ⟨q6, cap6, rfl, ?_, ?_⟩
      · exact ((HF6.out.far (by show w.heap.size + 1 + 1 < _; omega) _).far (by show w.heap.size + 1 + 1 < _; omega) _).less (by omega)
      · exact ((bfrom hB.out hb6).setCell (p := ⟨w.heap.size + 1 + 1, 0, none⟩) (by show w.heap.size ≤ w.heap.size + 1 + 1; omega) _).setCell (p := ⟨w.heap.size + 1 + 1, 1, none⟩) (by show w.heap.size ≤ w.heap.size + 1 + 1; omega) _

end Go.Proofs.Ytkcljjbjlhageaa
