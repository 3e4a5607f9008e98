/- The graph with the name k4: the pairs of the numbers 0 to 3, in the program. -/
import Derived.Test.YtpadnliebimceaaLawsF
import Derived.Test.YtpadnliebimceaaImplF
import Derived.Test.YtpadnliebimceaaOwnMore
import Derived.Deep.AppendLies
namespace Go.Proofs.Ytpadnliebimceaa
open Go.RowKit

/-- The pairs of the numbers 0 to 3, in their order. -/
def kA (k : Nat) : Int := if k < 3 then 0 else if k < 5 then 1 else 2
def kB (k : Nat) : Int := if k = 0 then 1 else if k = 1 then 2 else if k = 2 then 3 else if k = 3 then 2 else 3
def lab4 (a b : Nat) : Nat := if a = 0 then b - 1 else if a = 1 then b + 1 else if a = 2 then b + 2 else 6
theorem lab4_pr {a b : Nat} (h1 : a < b) (h2 : b < 4) : kA (lab4 a b) = a ∧ kB (lab4 a b) = b := by
  rcases (by omega : (a = 0 ∧ b = 1) ∨ (a = 0 ∧ b = 2) ∨ (a = 0 ∧ b = 3) ∨ (a = 1 ∧ b = 2) ∨ (a = 1 ∧ b = 3) ∨ (a = 2 ∧ b = 3)) with ⟨rfl, rfl⟩ | ⟨rfl, rfl⟩ | ⟨rfl, rfl⟩ | ⟨rfl, rfl⟩ | ⟨rfl, rfl⟩ | ⟨rfl, rfl⟩ <;> decide
theorem lab4_le {a b : Nat} (h : b ≤ 4) : lab4 a b ≤ 6 := by
  unfold lab4
  split
  · omega
  · split
    · omega
    · split <;> omega
theorem lab4_next {a b : Nat} (h1 : a < b) (h2 : b < 4) : lab4 a (b + 1) = lab4 a b + 1 := by
  unfold lab4
  split
  · omega
  · split
    · omega
    · split <;> omega
theorem lab4_turn {a : Nat} (h : a < 3) : lab4 a 4 = lab4 (a + 1) (a + 1 + 1) := by
  rcases (by omega : a = 0 ∨ a = 1 ∨ a = 2) with rfl | rfl | rfl <;> decide
def k4L (k : Nat) : List (Int × Int) := (List.range k).map fun i => (kA i, kB i)
theorem k4L_len (k : Nat) : (k4L k).length = k := by simp [k4L]
theorem k4L_succ (k : Nat) : k4L (k + 1) = k4L k ++ [(kA k, kB k)] := by
  unfold k4L
  rw [List.range_succ, List.map_append]
  rfl
theorem k4_is : IsG 4 (k4L 6) := by
  refine ⟨⟨?_, ?_⟩, ?_, ?_⟩
  · unfold okSize
    decide
  · intro i hi
    rw [k4L_len] at hi
    unfold okEdge
    rcases (by omega : i = 0 ∨ i = 1 ∨ i = 2 ∨ i = 3 ∨ i = 4 ∨ i = 5) with rfl | rfl | rfl | rfl | rfl | rfl <;> decide
  · intro v hv
    have hv : v < 4 := hv
    rcases (by omega : v = 0 ∨ v = 1 ∨ v = 2 ∨ v = 3) with rfl | rfl | rfl | rfl <;> decide
  · intro i hi
    rw [k4L_len] at hi
    unfold okAt ltE
    rcases (by omega : i = 0 ∨ i = 1 ∨ i = 2 ∨ i = 3 ∨ i = 4 ∨ i = 5) with rfl | rfl | rfl | rfl | rfl | rfl <;> decide
set_option maxRecDepth 100000 in
set_option maxHeartbeats 4000000 in
theorem iWithin_four (w : World) :
    Calls Try.prog 82 #[.int .i64 0, .int .i64 3] w fun e' w' => ∃ g cap, e' = .returned (.slice (some ⟨g, 0, none⟩) 6 cap) ∧ w.heap.size ≤ g ∧ OwnE w' g cap (k4L 6) ∧ Below w.heap.size w w' := by
  obtain ⟨j0, hj, hy0, hy1, hy2⟩ := info_parts infoEdge
  have Hj := hid hj
  clear hj
  go_enter Try.func82, Try.ntmps82
  go_wp2
  go_loopw [5, 6] (fun u v wr => ∃ (a l cap : Nat) (q : Option Addr), a ≤ 3 ∧ Hid (l = lab4 a (a + 1)) ∧ u = .slice q l cap ∧ v = .int .i64 a ∧ Hid (wr.ownsRow w.heap.size 85 2 (.slice q l cap) l (edgeVals (k4L l))) ∧ Hid (Below w.heap.size w wr)) (fun _ v _ => 3 - (intOf v).toNat)
  case atStart => exact ⟨0, 0, 0, none, Nat.zero_le _, hid (by decide), rfl, rfl, hid (World.ownsRow_nil _ _ _ _), hid (Below.refl _ _)⟩
  case round =>
    obtain ⟨a, l, cap, q, ha, hla, rfl, rfl, hO, hB⟩ := hrel
    by_cases hlt : a < 3
    · have hlt' : (a : Int) < 3 := by omega
      have ew : IntKind.i64.wrap ((a : Int) + 1) = ((a + 1 : Nat) : Int) := by rw [IntWalk.i64_in _ (by omega)]; omega
      go_wp2
      go_loopw [5, 7] (fun u v wr => ∃ (b' l2 cap2 : Nat) (q2 : Option Addr), a < b' ∧ b' ≤ 4 ∧ Hid (l2 = lab4 a b') ∧ u = .slice q2 l2 cap2 ∧ v = .int .i64 b' ∧ Hid (wr.ownsRow w.heap.size 85 2 (.slice q2 l2 cap2) l2 (edgeVals (k4L l2))) ∧ Hid (Below w.heap.size w wr)) (fun _ v _ => 4 - (intOf v).toNat)
      case atStart => exact ⟨a + 1, l, cap, q, by omega, by omega, hla, rfl, by go_num, hO, hB⟩
      case round =>
        obtain ⟨b', l2, cap2, q2, hab, hb3, hl2, rfl, rfl, hO2, hB2⟩ := hrel
        by_cases hltb : b' < 4
        · have hltb' : (b' : Int) ≤ 3 := by omega
          have hl3 : l2 ≤ 6 := by rw [hl2.out]; exact lab4_le hb3
          have hsz := hB2.out.size
          have HRow := hid (World.ownsRow.alloc hO2.out (.cells #[.int .i64 a, .int .i64 b'] 85))
          have HPR := hid (lab4_pr hab hltb)
          have hrow : ∀ j', (Value.slice q2 l2 cap2).ownBlock = some j' → w.heap.size ≤ j' ∧ j' < wr.heap.size := hO2.out.lt
          obtain ⟨wi, rfl⟩ : ∃ wi : World, wi = wr := ⟨_, rfl⟩
          go_wp2_with (at_builtin; go_must (refine wpList_append_lies _ rfl (.tmp 21) (.tmp 25) 22 rfl w.heap.size 85 j0 (.agg #[.int .i64 0, .int .i64 0]) 2 16 Try.underlying22 Hj.out hy0 hy1 hy2 rfl (by decide) (.slice q2 l2 cap2) l2 _ rfl HRow.out ⟨wi.heap.size, 0, none⟩ 1 1 [.int .i64 a, .int .i64 b'] rfl rfl (World.news_of_block (cs := #[.int .i64 a, .int .i64 b']) (t := 85) (fr := (0, 0)) (heap_alloc_new _ _)) (by simp [Value.oneCell']) (by decide) (by unfold maxLen; omega) (by omega) (by rw [World.size_alloc]; omega) (wi.heap.size + 1) (by rw [World.size_alloc]) ?_); intro g7 cap7 w7 hown7 hgrow7 hlie7 hg7; have Hown := hid hown7; have Hgrow := hid hgrow7; clear hown7 hgrow7 hlie7)
          go_roundw
          case rel =>
            refine ⟨b' + 1, l2 + 1, cap7, some ⟨g7, 0, none⟩, by omega, by omega, hid (by rw [lab4_next hab hltb, hl2.out]), rfl, by go_num, hid ?_, hid ?_⟩
            · rw [k4L_succ, edgeVals_append, hl2.out, HPR.out.1, HPR.out.2, ← hl2.out]; exact Hown.out
            · exact (hB2.out.alloc hsz (.cells #[.int .i64 a, .int .i64 b'] 85)).grown Hgrow.out (by rw [World.size_alloc]; omega) (fun j' e => (hrow j' e).1)
          case measure => simp [intOf]; omega
        · obtain rfl : b' = 4 := by omega
          go_wp2
          go_roundw
          case rel => exact ⟨a + 1, l2, cap2, q2, by omega, hid (by rw [hl2.out]; exact lab4_turn (by omega)), rfl, by go_num, hO2, hB2⟩
          case measure => simp [intOf]; omega
    · obtain rfl : a = 3 := by omega
      obtain rfl : l = 6 := hla.out
      have hF := hO.out.2
      obtain ⟨g, rfl⟩ : ∃ g, q = some ⟨g, 0, none⟩ := by
        rcases hF with ⟨_, h0⟩ | ⟨gS, capS, cur, hv, _⟩
        · omega
        · exact ⟨gS, (Value.slice.inj hv).1⟩
      go_wp2
      go_ret
      have h := OwnE.of_row hO.out (k4L_len 6)
      exact ⟨_, _, rfl, h.2, h.1, hB.out⟩


end Go.Proofs.Ytpadnliebimceaa
