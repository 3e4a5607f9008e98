/- The model's edges at a vertex. -/
import Derived.Test.YtaafbdpdpndplaaSpecC
import Derived.Test.YtaafbdpdpndplaaLawsF
import Derived.Test.YtaafbdpdpndplaaCols
import Derived.Deep.AppendLies
import Derived.Deep.DeepMust
namespace Go.Proofs.Ytaafbdpdpndplaa
open Go.RowKit

theorem FreshI.make {B : Nat} {w : World} {v : Value} {n : Nat} {xs : List Int} (h : w.ownsRow B 2 1 v n (intVals xs)) (hl : xs.length = n) : ∃ q cap, v = .slice q n cap ∧ FreshI B w q n cap xs := by
  rcases h.2 with ⟨rfl, h0⟩ | ⟨g, cap, cur, rfl, _⟩
  · subst h0
    exact ⟨none, 0, rfl, h, hl⟩
  · exact ⟨_, _, rfl, h, hl⟩

theorem row_new_int (w : World) (o : Obj) : ((w.alloc o).alloc (.cells #[] 2)).ownsRow (w.heap.size + 1) 2 1 (.slice (some ⟨w.heap.size + 1, 0, none⟩) 0 0) 0 [] := by
  have h := World.ownsRow_made (base := w.heap.size + 1) (e := 2) (size := 1) (w.alloc o) #[] 0 (by simp only [World.size_alloc]; omega) (Nat.zero_le _) rfl
  simpa only [World.size_alloc] using h

set_option maxRecDepth 100000 in
set_option maxHeartbeats 4000000 in
theorem sAt_any (s v : Int) (b off n c : Nat) (es : List (Int × Int)) (w : World) (hn : es.length = n) (hn30 : n ≤ 30) (hr : ReadsE w b off es) :
    Calls Try.prog 32 #[.agg #[.int .i64 s, .slice (some ⟨b, off, none⟩) n c], .int .i64 v] w fun e w' => ∃ q cap, e = .returned (.slice q (atF es v).length cap) ∧ FreshI w.heap.size w' q (atF es v).length cap (atF es v) ∧ Below w.heap.size w w' := by
  have Hn := hid hn
  have Hr := hid hr
  obtain ⟨i0, hi, hz0, hz1, hz2⟩ := info_parts infoInt
  have Hi := hid hi
  clear hn hr hi
  go_enter Try.func32, Try.ntmps32
  go_wp2
  have HX0 : Hid (Box ((w.alloc (.cells #[.int .i64 s, .slice (some ⟨b, off, none⟩) n c] 30)).alloc (.cells #[] 2)) w.heap.size s (some ⟨b, off, none⟩) n c) := hid ((Box.new w s (some ⟨b, off, none⟩) n c 30).on (on_alloc _ _))
  go_loopw [5, 6] (fun u i wr => ∃ (k l cap : Nat) (q : Option Addr), k ≤ n ∧ l ≤ k ∧ u = .slice q l cap ∧ i = .int .i64 k ∧ Hid (wr.ownsRow (w.heap.size + 1) 2 1 (.slice q l cap) l (intVals (atU es v k)) ∧ (atU es v k).length = l) ∧ Hid (Below w.heap.size w wr) ∧ Hid (Box wr w.heap.size s (some ⟨b, off, none⟩) n c) ∧ w.heap.size + 1 < wr.heap.size) (fun _ i _ => n - (intOf i).toNat)
  case atStart => exact ⟨0, 0, 0, _, Nat.zero_le _, Nat.le_refl _, rfl, rfl, hid ⟨row_new_int _ _, rfl⟩, hid (bfrom (on_alloc _ _) (on_alloc _ _)), HX0, by simp⟩
  case round =>
    obtain ⟨k, l, cap, q, hk, hlk, rfl, rfl, hO, hB, hX, hzr⟩ := hrel
    clear HX0
    have hx := hX.out.1
    have hy := hX.out.2
    by_cases hlt : k < n
    · have hbb : b < w.heap.size := reads_lt Hr.out (by have := Hn.out; omega)
      have hc1 := (Hr.out.on hB.out k (by have := Hn.out; omega)).1
      have hc2 := (Hr.out.on hB.out k (by have := Hn.out; omega)).2
      obtain ⟨wo, rfl⟩ : ∃ wo : World, wo = wr := ⟨_, rfl⟩
      have hl63 : l + 1 ≤ 31 := by omega
      by_cases hon : onE es v k = true
      · have HON := hid hon
        have htk := hid (atU_yes hon)
        have hgoal : (eA es k == v) = true ∨ (eA es k == v) = false ∧ (eB es k == v) = true := by
          unfold onE at hon
          cases h1 : eA es k == v
          · rw [h1] at hon; exact .inr ⟨rfl, by simpa using hon⟩
          · exact .inl rfl
        clear hon
        rcases hgoal with h1 | ⟨h1, h2⟩
        all_goals
          go_wp2_with (at_builtin; go_must (refine wpList_append_lies _ rfl (.tmp 33) (.tmp 35) 46 rfl (w.heap.size + 1) 2 i0 (.int .i64 0) 1 8 Try.underlying46 Hi.out hz0 hz1 hz2 rfl (by decide) (.slice q l cap) l _ rfl (hO.out.1.alloc _) ⟨wo.heap.size, 0, none⟩ 1 1 [.int .i64 k] rfl rfl (World.news_of_block (cs := #[.int .i64 k]) (t := 2) (fr := (0, 0)) (heap_alloc_new wo _)) (by simp [Value.oneCell']) (by decide) (by unfold maxLen; omega) (by omega) (by simp; omega) (wo.heap.size + 1) (by simp) ?_); intro g cap' w1 hown1 hgrow1 hlie hg1; have Hown := hid hown1; have Hgrow := hid hgrow1; clear hown1 hgrow1 hlie)
          have hrow : ∀ j, (Value.slice q l cap).ownBlock = some j → w.heap.size + 1 ≤ j ∧ j < wo.heap.size := hO.out.1.lt
          go_roundw
          case rel =>
            refine ⟨k + 1, l + 1, cap', some ⟨g, 0, none⟩, by omega, by omega, rfl, by go_num, hid ⟨?_, ?_⟩, hid ?_, hid ?_, ?_⟩
            · rw [htk.out, intVals_append]; exact Hown.out
            · rw [htk.out, List.length_append, hO.out.2]; rfl
            · exact (hB.out.alloc hB.out.size _).grown Hgrow.out (by simp; omega) (fun j hj => by have := (hrow j hj).1; omega)
            · exact (hX.out.on (on_alloc _ _)).kept Hgrow.out (fun h => by have := (hrow _ h.symm).1; omega)
            · have := Hgrow.out.size; simp at this; omega
          case measure => simp [intOf]; omega
      · have hon' : onE es v k = false := by simpa using hon
        have htk := hid (atU_no hon')
        have h1 : (eA es k == v) = false := by unfold onE at hon'; cases h : eA es k == v <;> simp_all
        have h2 : (eB es k == v) = false := by unfold onE at hon'; cases h : eB es k == v <;> simp_all
        clear hon hon'
        go_wp2
        go_roundw
        case rel => exact ⟨k + 1, l, cap, q, by omega, by omega, rfl, by go_num, hid (by rw [htk.out]; exact hO.out), hB, hX, hzr⟩
        case measure => simp [intOf]; omega
    · obtain rfl : k = n := by omega
      go_wp2
      go_ret
      have he : atU es v k = atF es v := by unfold atF; rw [Hn.out]
      have ho := hO.out
      rw [he] at ho
      obtain ⟨ho1, rfl⟩ := ho
      exact ⟨q, cap, rfl, FreshI.less ⟨ho1, rfl⟩ (by omega), hB.out⟩

end Go.Proofs.Ytaafbdpdpndplaa
