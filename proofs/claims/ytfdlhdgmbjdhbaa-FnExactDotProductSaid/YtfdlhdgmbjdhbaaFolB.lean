/- followedBy in the program: two graphs, the second one with its numbers behind those of the first one. -/
import Derived.Test.YtfdlhdgmbjdhbaaClone
import Derived.Test.YtfdlhdgmbjdhbaaLeft
import Derived.Test.YtfdlhdgmbjdhbaaLawsD
import Derived.Test.YtfdlhdgmbjdhbaaOnce
import Derived.Test.YtfdlhdgmbjdhbaaFar
import Derived.Deep.RegionHeld3
import Derived.Deep.DeepCutAuto
import Derived.Deep.AppendLies
namespace Go.Proofs.Ytfdlhdgmbjdhbaa
open Go.RowKit

theorem heap_alloc_newC (w : World) (o : Obj) (B : Nat) (hB : B = w.heap.size) : (w.alloc o).heap[B]? = some o := by subst hB; exact heap_alloc_new w o
theorem kF_drew {w : World} {a : Addr} {v : Value} (h : w.cell? a = some v) : w.drew.cell? a = some v := h
theorem kF_alloc {w : World} {a : Addr} {v : Value} (o : Obj) (h : w.cell? a = some v) : (w.alloc o).cell? a = some v := Lib.cell?_alloc_some o h
theorem kF_far {w : World} {a p : Addr} {u v : Value} (hne : a.block ≠ p.block) (h : w.cell? a = some v) : (w.setCell p u).cell? a = some v := (World.cell?_of_block (w := w) (heap_setCell_other w p a.block u hne)).trans h
set_option maxRecDepth 100000 in
set_option maxHeartbeats 8000000 in
theorem iFollowed_any (s t : Int) (b1 o1 n1 c1 b2 o2 n2 c2 : Nat) (xs ys : List (Int × Int)) (w : World) (h1 : xs.length = n1) (h2 : ys.length = n2) (m0 : 1 ≤ n1) (m1 : n1 ≤ 40) (m2 : n2 ≤ 40) (r1 : ReadsE w b1 o1 xs) (r2 : ReadsE w b2 o2 ys) (hs : 0 ≤ s ∧ s ≤ 100) (ht : 0 ≤ t ∧ t ≤ 100) (hE : EndsIn 100 ys) :
    Calls Try.prog 73 #[.agg #[.int .i64 s, .slice (some ⟨b1, o1, none⟩) n1 c1], .agg #[.int .i64 t, .slice (some ⟨b2, o2, none⟩) n2 c2]] w fun e w' => ∃ g cap, e = .returned (.agg #[.int .i64 (s + t), .slice (some ⟨g, 0, none⟩) (n1 + n2) cap]) ∧ w.heap.size ≤ g ∧ OwnE w' g cap (xs ++ upE s ys) ∧ Below w.heap.size w w' := by
  have H1 := hid h1
  have H2 := hid h2
  have R1 := hid r1
  have R2 := hid r2
  have HE := hid hE
  have HSz := hid (And.intro hs ht)
  have HM := hid (show 1 ≤ n1 ∧ n1 ≤ 40 ∧ n2 ≤ 40 from ⟨m0, m1, m2⟩)
  have e1 : IntKind.i64.wrap (s + t) = s + t := IntWalk.i64_in _ (by omega)
  obtain ⟨i0, hi, hz0, hz1, hz2⟩ := info_parts infoEdge
  have Hi := hid hi
  clear h1 h2 r1 r2 hE hs ht m0 m1 m2 hi
  go_enter Try.func73, Try.ntmps73
  go_upto_region 1 with fail
  obtain ⟨W0, hW0⟩ : ∃ W0, W0 = ((w.alloc (.cells #[.int .i64 s, .slice (some ⟨b1, o1, none⟩) n1 c1] 28)).alloc (.cells #[.int .i64 t, .slice (some ⟨b2, o2, none⟩) n2 c2] 28)).alloc (.cells #[.int .i64 0, .slice none 0 0] 28) := ⟨_, rfl⟩
  rw [← hW0]
  have hB0 : Below w.heap.size w W0 := by rw [hW0]; exact bfrom (bfrom (on_alloc _ _) (on_alloc _ _)) (on_alloc _ _)
  have hG : GBox W0 w.heap.size s (some ⟨b1, o1, none⟩) n1 c1 := by rw [hW0]; exact ((GBox.new w w.heap.size rfl).on (on_alloc _ _)).on (on_alloc _ _)
  have hH : GBox W0 (w.heap.size + 1) t (some ⟨b2, o2, none⟩) n2 c2 := by rw [hW0]; exact (GBox.new _ _ (by simp)).on (on_alloc _ _)
  have hK : GBox W0 (w.heap.size + 1 + 1) 0 none 0 0 := by rw [hW0]; exact GBox.new _ _ (by simp)
  have hx0 := hG.box.1
  have hy0 := hG.box.2
  have hl0 := hG.lt
  have hu0 := hH.box.1
  have hl1 := hH.lt
  have hl2 := hK.lt
  have HB0 := hid hB0
  have HG0 := hid (And.intro hG (And.intro hH hK))
  have HR1 := hid (R1.out.on hB0)
  clear hW0 hB0 hG hH hK
  go_cut [5] (fun u wx => ∃ B5 g4 cap4, u = .pointer (some ⟨B5, 0, none⟩) ∧ Hid (GBox wx B5 (s + t) (some ⟨g4, 0, none⟩) n1 cap4) ∧ Hid (OwnE wx g4 cap4 xs) ∧ Hid (W0.heap.size ≤ g4 ∧ W0.heap.size ≤ B5 ∧ B5 ≠ g4) ∧ Hid (Below W0.heap.size W0 wx))
  case first =>
    go_region_held3 (fun w' => w'.cell? ⟨w.heap.size, 0, none⟩ = some (.int .i64 s) ∧ w'.cell? ⟨w.heap.size, 1, none⟩ = some (.slice (some ⟨b1, o1, none⟩) n1 c1) ∧ w'.cell? ⟨w.heap.size + 1, 0, none⟩ = some (.int .i64 t)) (first | (with_reducible exact ⟨hx4, hy4, hu4⟩) | (refine ⟨?_, ?_, ?_⟩ <;> (repeat (first | with_reducible exact hx0 | with_reducible exact hy0 | with_reducible exact hu0 | with_reducible exact hx4 | with_reducible exact hy4 | with_reducible exact hu4 | with_reducible refine kF_drew ?_ | with_reducible refine kF_alloc _ ?_ | with_reducible refine kF_far (by simp; omega) ?_)))) ((go_at_call 100; refine (cloneE_row b1 o1 n1 c1 xs _ H1.out (by have := HM.out; omega) (HR1.out.on (by first | exact (Below.refl _ _).drew | exact (on_alloc _ _).drew))).mono ?_; rintro e w4 ⟨v4, rfl, ho4, hn4, hb4⟩; have hB4 : Below W0.heap.size W0 w4 := bfrom (by first | exact (Below.refl _ _).drew | exact (on_alloc _ _).drew) hb4; have hx4 := ((bcells hB4).1 _ 0 hl0).trans hx0; have hy4 := ((bcells hB4).1 _ 1 hl0).trans hy0; have hu4 := ((bcells hB4).1 _ 0 hl1).trans hu0; obtain ⟨g4, cap4, rfl, ho5⟩ := clone_own ho4 H1.out (by have := HM.out; omega); (first | (have hk4 : GBox w4 W0.heap.size 0 none 0 0 := GBox.on (show GBox (W0.alloc (.cells #[.int .i64 0, .slice none 0 0] 28)).drew W0.heap.size 0 none 0 0 from GBox.new W0 _ rfl) hb4; have hp0 := hk4.box.1; have hp1 := hk4.box.2; have hq0 := hk4.frozen 0; have hq1 := hk4.frozen 1; have HK4 := hid hk4; have hne4 : W0.heap.size ≠ g4 := (by have h := ho5.2; simp only [drew_size, World.size_alloc] at h; omega); clear hk4) | skip); have HO4 := hid ho5; have HB4 := hid hB4; clear ho4 hn4 hb4 ho5 hB4))
    all_goals
      go_wp2_with fail
      go_meet
      have hg4 : W0.heap.size ≤ g4 := by have h := HO4.out.2; (try simp only [drew_size] at h); (try simp only [World.size_alloc] at h); omega
      have hg5 := HO4.out.1.lt
      have hz4 := HB4.out.size
      first
        | exact ⟨w4.heap.size, g4, cap4, rfl, hid (GBox.new w4 _ rfl), hid (HO4.out.1.alloc _), hid ⟨hg4, hz4, by omega⟩, hid (bfrom HB4.out (on_alloc _ _))⟩
        | exact ⟨W0.heap.size, g4, cap4, rfl, hid ((HK4.out.set0 (s + t)).set1 (some ⟨g4, 0, none⟩) n1 cap4), hid ((HO4.out.1.far (fun e => hne4 e.symm) _).far (fun e => hne4 e.symm) _), hid ⟨hg4, Nat.le_refl _, hne4⟩, hid ((HB4.out.setCell (p := ⟨W0.heap.size, 0, none⟩) (Nat.le_refl _) _).setCell (p := ⟨W0.heap.size, 1, none⟩) (Nat.le_refl _) _)⟩
  case rest =>
  obtain ⟨B5, g4, cap4, rfl, hG5, hO5, hD5, hB5⟩ := hcut
  obtain ⟨w5, rfl⟩ : ∃ w5, w5 = wc := ⟨_, rfl⟩
  have hx5 := ((bcells hB5.out).1 _ 0 hl0).trans hx0
  have hv5 := ((bcells hB5.out).1 _ 1 hl1).trans HG0.out.2.1.box.2
  have hl05 : w.heap.size < w5.heap.size := Nat.lt_of_lt_of_le hl0 hB5.out.size
  have hl15 : w.heap.size + 1 < w5.heap.size := Nat.lt_of_lt_of_le hl1 hB5.out.size
  go_wp2_with fail
  go_loopw [20] (fun i wr => ∃ (k cap g : Nat), k ≤ n2 ∧ i = .int .i64 k ∧ Hid (GBox wr B5 (s + t) (some ⟨g, 0, none⟩) (n1 + k) cap) ∧ Hid (wr.ownsRow W0.heap.size 57 2 (.slice (some ⟨g, 0, none⟩) (n1 + k) cap) (n1 + k) (edgeVals (xs ++ upE s (ys.take k)))) ∧ Hid (W0.heap.size ≤ B5 ∧ B5 ≠ g) ∧ Hid (Below W0.heap.size W0 wr)) (fun i _ => n2 - (intOf i).toNat)
  case atStart => exact ⟨0, cap4, g4, Nat.zero_le _, rfl, hG5, hid (by simpa [upE] using hO5.out.row H1.out hD5.out.1), hid hD5.out.2, hB5⟩
  case round =>
    obtain ⟨k, cap, g, hk, rfl, hG, hO, hD, hB⟩ := hrel
    obtain ⟨wo, rfl⟩ : ∃ wo : World, wo = wr := ⟨_, rfl⟩
    have hszo := hB.out.size
    have hlo : w.heap.size < wo.heap.size := Nat.lt_of_lt_of_le hl0 hszo
    have hxo := ((bcells hB.out).1 _ 0 hl0).trans hx0
    have hcf := hG.out.box.2
    have hlB := hG.out.lt
    have HBw := hid (bfrom HB0.out hB.out)
    have hg := hO.out.lt g rfl
    by_cases hlt : k < n2
    · have hml : k < ys.length := by rw [H2.out]; exact hlt
      have hok := HE.out k hml
      have hc1 := (R2.out.on HBw.out k hml).1
      have hc2 := (R2.out.on HBw.out k hml).2
      have hb2o := World.block_lt_of_cell? wo _ hc1
      have hsz := HSz.out
      have ew1 : IntKind.i64.wrap (s + eA ys k) = s + eA ys k := IntWalk.i64_in _ (by omega)
      have ew2 : IntKind.i64.wrap (s + eB ys k) = s + eB ys k := IntWalk.i64_in _ (by omega)
      have hk40 : k < 40 := by have := HM.out; omega
      have HHG := hid hg
      clear hok hsz hg
      go_wp2_with (at_builtin; go_must (refine wpList_append_lies _ rfl (.tmp 25) (.tmp 37) 26 rfl W0.heap.size 57 i0 (.agg #[.int .i64 0, .int .i64 0]) 2 16 Try.underlying26 Hi.out hz0 hz1 hz2 rfl (by decide) (.slice (some ⟨g, 0, none⟩) (n1 + k) cap) (n1 + k) _ rfl ((hO.out.alloc _).alloc _) ⟨wo.heap.size + 1, 0, none⟩ 1 1 [.int .i64 (s + eA ys k), .int .i64 (s + eB ys k)] rfl rfl (World.news_of_block (cs := #[.int .i64 (s + eA ys k), .int .i64 (s + eB ys k)]) (t := 57) (fr := (0, 0)) (heap_alloc_newC _ _ _ (by simp))) (by simp [Value.oneCell']) (by decide) (by unfold maxLen; have := HM.out; omega) (by have := HM.out; omega) (by simp only [World.size_alloc]; omega) (wo.heap.size + 1 + 1) (by simp) ?_); intro g' cap' w1 hown1 hgrow1 hlie hg1; have hG1 : GBox w1 B5 (s + t) (some ⟨g, 0, none⟩) (n1 + k) cap := hG.out.keep ((hgrow1.block B5 (by simp only [World.size_alloc]; omega) (fun e => hD.out.2 (Option.some.inj e))).trans ((Below.heap_alloc _ _ B5 (by simp only [World.size_alloc]; omega)).trans (Below.heap_alloc _ _ B5 hlB))); have hpa := hG1.box.2; have hpf := hG1.frozen 1; have HG1 := hid hG1; have Hown := hid hown1; have Hgrow := hid hgrow1; have Hlie := hid hlie; clear hown1 hgrow1 hlie hG1)
      go_roundw
      case rel =>
        have hBg : B5 ≠ g' := by
          rcases Hlie.out with h | h
          · have e : g = g' := Option.some.inj h
            rw [← e]; exact hD.out.2
          · omega
        have hw1 := OwnE.of_row (es := xs ++ upE s (ys.take (k + 1))) (n := n1 + k + 1) (by rw [upE_step (by rw [H2.out]; exact hlt), ← List.append_assoc, edgeVals_append, Int.add_comm (eA ys k) s, Int.add_comm (eB ys k) s]; exact Hown.out) (by rw [List.length_append, upE_length, List.length_take, H1.out, H2.out]; omega)
        refine ⟨k + 1, cap', g', by omega, by go_num, hid (HG1.out.set1 _ _ _), hid ((hw1.1.far (fun e => hBg e.symm) _).row (by rw [List.length_append, upE_length, List.length_take, H1.out, H2.out]; omega) hw1.2), hid ⟨hD.out.1, hBg⟩, hid ?_⟩
        exact ((((hB.out.alloc hszo _).alloc (by simp only [World.size_alloc]; omega) _).grown Hgrow.out (by simp only [World.size_alloc]; omega) (fun j hj => by have e : g = j := Option.some.inj hj; have := HHG.out.1; omega)).setCell (p := ⟨B5, 1, none⟩) hD.out.1 _)
      case measure => simp [intOf]; omega
    · obtain rfl : k = n2 := by omega
      have hk5 := (bcells hB.out).1 (w.heap.size + 1 + 1)
      have hKo := HG0.out.2.2.keep (hB.out.block _ hl2)
      have hra := hKo.box.1
      have hrb := hKo.box.2
      have hfa := hKo.frozen 0
      have hfb := hKo.frozen 1
      have hKl := hKo.lt
      have hcs := hG.out.box.1
      have hor := OwnE.of_row (es := xs ++ upE s ys) (n := n1 + k) (by have h := hO.out; rw [List.take_of_length_le (by rw [H2.out]; exact Nat.le_refl _)] at h; exact h) (by rw [List.length_append, upE_length, H1.out, H2.out])
      have HOR := hid hor
      clear hor hk5 hKo
      go_wp2_with fail
      refine bodyPost_ret (v := .agg #[.int .i64 (s + t), .slice (some ⟨g, 0, none⟩) (n1 + k) cap]) (by simp [results, Try.results73, go_sem, hra, hrb]) rfl ⟨g, cap, rfl, by have := HOR.out.2; have := HB0.out.size; omega, ?_, ?_⟩
      · exact (HOR.out.1.far (by have := HOR.out.2; show g ≠ w.heap.size + 1 + 1; omega) _).far (by have := HOR.out.2; show g ≠ w.heap.size + 1 + 1; omega) _
      · have h := HBw.out
        go_grown

end Go.Proofs.Ytfdlhdgmbjdhbaa
