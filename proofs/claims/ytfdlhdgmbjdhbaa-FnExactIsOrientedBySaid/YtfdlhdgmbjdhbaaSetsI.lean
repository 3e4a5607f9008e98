/- Lists of sets of edges in the program: codeOfSets. -/
import Derived.Test.YtfdlhdgmbjdhbaaEdgI
import Derived.Test.YtfdlhdgmbjdhbaaLists
namespace Go.Proofs.Ytfdlhdgmbjdhbaa
open Go.RowKit

def areSetsP (n : Int) (Ls : List (List Int)) : Prop := ∀ i, i < Ls.length → isSetP n (lI Ls i)
instance (n : Int) (Ls : List (List Int)) : Decidable (areSetsP n Ls) := by unfold areSetsP; infer_instance
def setsCode (s : Int) (es : List (Int × Int)) (Ls : List (List Int)) : Int := if IsG s es then (if areSetsP es.length Ls then 0 else 2) else 1

set_option maxRecDepth 100000 in
set_option maxHeartbeats 4000000 in
theorem iSets_none (s : Int) (p pq : Option Addr) (n c m mc : Nat) (es : List (Int × Int)) (w : World) (hm : n ≤ 1048576) (hn : es.length = n) (hr : SeesE w p es) (g : ¬ IsG s es) :
    Calls Try.prog 58 #[.agg #[.int .i64 s, .slice p n c], .slice pq m mc] w fun e' w' => e' = .returned (.int .i64 1) ∧ Below w.heap.size w w' := by
  have Hn := hid hn
  have Hr := hid hr
  have G := hid g
  clear hn hr g
  go_enter Try.func58, Try.ntmps58
  go_wp2_with fail
  refine (iIsGraph_any _ _ _ _ es _ hm Hn.out (Hr.out.on (on_alloc _ _))).mono ?_
  rw [decide_eq_false G.out]
  rintro e w2 ⟨rfl, hb2⟩
  have hB2 := bfrom (w := w) (on_alloc _ _) hb2
  go_wp2
  go_ret
  exact ⟨rfl, hB2⟩

set_option maxRecDepth 100000 in
set_option maxHeartbeats 8000000 in
theorem iSets_yes (s : Int) (b off n c m mc : Nat) (pq : Option Addr) (es : List (Int × Int)) (Ls : List (List Int)) (w : World) (hn : es.length = n) (hr : ReadsE w b off es) (g : IsG s es) (hL : Ls.length = m) (hm : m ≤ 1048576) (hl : ∀ i, i < m → (lI Ls i).length ≤ 1048576) (hrl : SeesL w pq Ls) :
    Calls Try.prog 58 #[.agg #[.int .i64 s, .slice (some ⟨b, off, none⟩) n c], .slice pq m mc] w fun e' w' => e' = .returned (.int .i64 (if areSetsP n Ls then 0 else 2)) ∧ Below w.heap.size w w' := by
  have hn30 : n ≤ 30 := by have := isG_len g; omega
  have Hn := hid hn
  have Hr := hid hr
  have G := hid g
  have HL := hid hL
  have Hl := hid hl
  have Hrl := hid hrl
  have hm9 : m ≤ 9223372036854775807 := by omega
  obtain ⟨r, hR⟩ : ∃ r : Int, (if areSetsP n Ls then 0 else 2) = r := ⟨_, rfl⟩
  rw [hR]
  have HR := hid hR
  clear hn hr g hL hl hrl hR
  go_enter Try.func58, Try.ntmps58
  go_wp2_with fail
  refine (iIsGraph_any _ _ _ _ es _ (by omega) Hn.out (SeesE.on (.inr ⟨b, off, rfl, Hr.out⟩) (on_alloc _ _))).mono ?_
  rw [decide_eq_true G.out]
  rintro e w2 ⟨rfl, hb2⟩
  have HB2 := hid (bfrom (w := w) (on_alloc _ _) hb2)
  have hX2 := (Box.new w s (some ⟨b, off, none⟩) n c 28).on hb2
  have HX2 := hid hX2
  have hx2 := hX2.1
  have hy2 := hX2.2
  have hz2 := hX2.lt
  clear hX2 hb2
  go_wp2
  go_loop [12] (fun i => ∃ i' : Nat, i' ≤ m ∧ i = .int .i64 i' ∧ Hid (∀ j, j < i' → isSetP n (lI Ls j))) (fun i => m - (intOf i).toNat)
  case atStart => exact ⟨0, Nat.zero_le _, rfl, hid (fun i hi => by omega)⟩
  case round =>
    obtain ⟨i, hi, rfl, hD⟩ := hrel
    by_cases hlt : i < m
    · obtain ⟨lb, lo, rfl, hrd⟩ : ∃ lb lo, pq = some ⟨lb, lo, none⟩ ∧ ReadsL w lb lo Ls := by
        rcases Hrl.out with h | h
        · have := HL.out; rw [h] at this; simp at this; omega
        · exact h
      obtain ⟨q1, c1, h1, s1⟩ := (hrd.on HB2.out) i (by have := HL.out; omega)
      have hlb : lb < w2.heap.size := World.block_lt_of_cell? w2 ⟨lb, lo + i, none⟩ h1
      have hle := Hl.out i hlt
      obtain ⟨k, hk⟩ : ∃ k, (lI Ls i).length = k := ⟨_, rfl⟩
      rw [hk] at h1 hle
      have HK := hid hk
      have S1 := hid s1
      clear hrd s1 hk
      by_cases gs : isSetP n (lI Ls i)
      · have GS := hid gs
        clear gs
        go_wp2_with (go_at_call 91; refine (iSet_any _ _ _ n (lI Ls i) _ HK.out hle S1.out).mono ?_; rw [decide_eq_true GS.out]; rintro e w3 ⟨rfl, rfl⟩)
        go_round
        case rel =>
          refine ⟨i + 1, by omega, by go_num, hid (fun j hj => ?_)⟩
          rcases Nat.lt_or_ge j i with h | h
          · exact hD.out j h
          · rw [show j = i by omega]; exact GS.out
        case measure => simp [intOf]; omega
      · have GS := hid gs
        clear gs
        go_wp2_with (go_at_call 91; refine (iSet_any _ _ _ n (lI Ls i) _ HK.out hle S1.out).mono ?_; rw [decide_eq_false GS.out]; rintro e w3 ⟨rfl, rfl⟩)
        go_ret
        refine ⟨?_, HB2.out⟩
        rw [← HR.out, if_neg (fun h => GS.out (h i (by have := HL.out; omega)))]
        rfl
    · have HA := hid (show areSetsP n Ls from fun j hj => hD.out j (by have := HL.out; omega))
      go_wp2
      go_ret
      refine ⟨?_, HB2.out⟩
      rw [← HR.out, if_pos HA.out]
      rfl

theorem iSets_any (s : Int) (p pq : Option Addr) (n c m mc : Nat) (es : List (Int × Int)) (Ls : List (List Int)) (w : World) (hm : n ≤ 1048576) (hn : es.length = n) (hr : SeesE w p es) (hL : Ls.length = m) (hm9 : m ≤ 1048576) (hl : ∀ i, i < m → (lI Ls i).length ≤ 1048576) (hrl : SeesL w pq Ls) :
    Calls Try.prog 58 #[.agg #[.int .i64 s, .slice p n c], .slice pq m mc] w fun e' w' => e' = .returned (.int .i64 (setsCode s es Ls)) ∧ Below w.heap.size w w' := by
  unfold setsCode
  by_cases g : IsG s es
  · rw [if_pos g, hn]
    obtain ⟨b, off, rfl, rd⟩ := isG_sees g hr
    exact iSets_yes s b off n c m mc pq es Ls w hn rd g hL hm9 hl hrl
  · rw [if_neg g]
    exact iSets_none s p pq n c m mc es w hm hn hr g

end Go.Proofs.Ytfdlhdgmbjdhbaa
