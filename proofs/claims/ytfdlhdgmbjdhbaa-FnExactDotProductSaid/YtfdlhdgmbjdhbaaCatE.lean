/- slices.Concat at edges: lists one behind the other, in memory of the call's own. -/
import Derived.Test.YtfdlhdgmbjdhbaaClone
import Derived.Test.YtfdlhdgmbjdhbaaLawsF
import Derived.Lib.AppendZerosOnto
import Derived.Deep.AppendLies
import Derived.Deep.DeepMust
namespace Go.Proofs.Ytfdlhdgmbjdhbaa
open Go.RowKit Go.Lib

set_option maxHeartbeats 2000000 in
set_option maxRecDepth 100000 in
theorem iGrowE_any (n : Nat) (w : World) (h1 : 1 ≤ n) (hn : n ≤ 1000) :
    Calls Try.prog 101 #[.slice none 0 0, .int .i64 n] w fun e w' => ∃ g cap, e = .returned (.slice (some ⟨g, 0, none⟩) 0 cap) ∧ w'.ownsRow w.heap.size 57 2 (.slice (some ⟨g, 0, none⟩) 0 cap) 0 [] ∧ Below w.heap.size w w' := by
  obtain ⟨i0, hi, hz0, hz1, hz2⟩ := info_parts infoEdge
  have z25 : ∀ w, (Go.sizeOf 57).run Try.prog w = .ok i0.size w := fun w => by simp [Go.sizeOf, typeInfo, hi]
  have hrz : ∀ ty, (Builtin.append_ #[26, 3] ty #[.slice none 0 0, .int .i64 (n : Int)]).run Try.prog w =
      .ok (.slice (some ⟨w.heap.size, 0, none⟩) n (grownCap w n 0 57)) (w.drew.alloc (.cells ((#[] : Array Value) ++ Builtin.zeroCells (Value.agg #[.int .i64 0, .int .i64 0]).cells n ++ Builtin.zeroCells (Value.agg #[.int .i64 0, .int .i64 0]).cells (grownCap w n 0 57 - n)) 57)) := fun ty => by
    have h := Lib.run_append_grow_zeros w 26 3 ty 57 i0 (.agg #[.int .i64 0, .int .i64 0]) .i64 .i64 Try.underlying26 Try.underlying3 hi hz0 none 0 0 [] (run_firstCells_none w.drew i0.size 0 0 0) n (by omega) (by omega) (by omega) (by omega) (by rw [hz2]; omega)
      (growslice_fits (by omega) (by rw [hz2]; omega))
    simpa only [Nat.zero_add] using h
  have hGn : n ≤ grownCap w n 0 57 := grownCap_ge w _ _ _
  have hGm := grownCap_le_maxLen w n 0 57 (by unfold maxLen; omega)
  obtain ⟨G, hG⟩ : ∃ G, G = grownCap w n 0 57 := ⟨_, rfl⟩
  obtain ⟨ZC, hZ⟩ : ∃ ZC : Array Value, ZC = (#[] : Array Value) ++ Builtin.zeroCells (Value.agg #[.int .i64 0, .int .i64 0]).cells n ++ Builtin.zeroCells (Value.agg #[.int .i64 0, .int .i64 0]).cells (grownCap w n 0 57 - n) := ⟨_, rfl⟩
  have hZs : ZC.size = G * 2 := by
    rw [hZ, ← hG]
    simp [Builtin.zeroCells, Value.cells]
    omega
  rw [← hZ, ← hG] at hrz
  rw [← hG] at hGn hGm
  have hG63 : G ≤ 9223372036854775807 := by unfold maxLen at hGm; omega
  have HZs := hid hZs
  have HGm := hid hGm
  have hn1 : (0 : Int) < (n : Int) := by omega
  clear hG hZ hZs hGm
  go_enter Try.func101, Try.ntmps101
  go_wp2_with (at_builtin; refine Lib.wpList_append_run _ rfl _ _ _ _ rfl _ _ rfl rfl _ _ (hrz _) ?_)
  go_ret
  exact ⟨_, _, rfl, World.ownsRow_made (base := w.heap.size) (e := 57) (size := 2) w.drew ZC G (Nat.le_refl _) HGm.out HZs.out, bfrom (Below.refl _ _).drew (on_alloc _ _)⟩

def lE (Ls : List (List (Int × Int))) (i : Nat) : List (Int × Int) := Ls.getD i []
def catU (Ls : List (List (Int × Int))) (k : Nat) : List (Int × Int) := (Ls.take k).flatten
theorem catU_zero (Ls : List (List (Int × Int))) : catU Ls 0 = [] := rfl
theorem catU_succ {Ls : List (List (Int × Int))} {k : Nat} (h : k < Ls.length) : catU Ls (k + 1) = catU Ls k ++ lE Ls k := by
  unfold catU lE
  rw [List.take_add_one, List.getElem?_eq_getElem h, List.flatten_append, List.getD_eq_getElem?_getD, List.getElem?_eq_getElem h]
  simp
theorem catU_le (Ls : List (List (Int × Int))) : ∀ {k m : Nat}, k ≤ m → m ≤ Ls.length → (catU Ls k).length ≤ (catU Ls m).length := by
  intro k m h hm
  obtain ⟨j, rfl⟩ : ∃ j, m = k + j := ⟨m - k, by omega⟩
  induction j with
  | zero => exact Nat.le_refl _
  | succ j ih =>
    have := ih (by omega) (by omega)
    rw [← Nat.add_assoc, catU_succ (by omega), List.length_append]
    omega
/-- The slices of a slice of slices of edges: each of them reads its list. -/
def HoldsE (w : World) (ba : Nat) (Ls : List (List (Int × Int))) : Prop := ∀ i, i < Ls.length → ∃ b o c, w.cell? ⟨ba, i, none⟩ = some (.slice (some ⟨b, o, none⟩) (lE Ls i).length c) ∧ ReadsE w b o (lE Ls i) ∧ 0 < (lE Ls i).length ∧ ba < w.heap.size ∧ b < w.heap.size
theorem HoldsE.on {w w' : World} {ba : Nat} {Ls : List (List (Int × Int))} (h : HoldsE w ba Ls) (hb : Below w.heap.size w w') : HoldsE w' ba Ls := fun i hi => by
  obtain ⟨b, o, c, h1, h2, h3, h4, h5⟩ := h i hi
  exact ⟨b, o, c, ((bcells hb).1 _ _ h4).trans h1, h2.on hb, h3, by have := hb.size; omega, by have := hb.size; omega⟩

set_option maxHeartbeats 4000000 in
set_option maxRecDepth 100000 in
theorem iConcatE_any (ba m mc T : Nat) (Ls : List (List (Int × Int))) (w : World) (hm : Ls.length = m) (hm1 : m ≤ 100) (hT : (catU Ls m).length = T) (hT1 : 1 ≤ T) (hT2 : T ≤ 1000) (hr : HoldsE w ba Ls) :
    Calls Try.prog 74 #[.slice (some ⟨ba, 0, none⟩) m mc] w fun e w' => ∃ g cap, e = .returned (.slice (some ⟨g, 0, none⟩) T cap) ∧ w.heap.size ≤ g ∧ OwnE w' g cap (catU Ls m) ∧ Below w.heap.size w w' := by
  have Hm := hid hm
  have Hr := hid hr
  have HT := hid hT
  have HLe := hid (show ∀ k, k ≤ m → (catU Ls k).length ≤ T from fun k hk => by rw [← hT]; exact catU_le Ls hk (by omega))
  have hm9 : m ≤ 9223372036854775807 := by omega
  obtain ⟨i0, hi, hz0, hz1, hz2⟩ := info_parts infoEdge
  have Hi := hid hi
  clear hm hr hT hi
  go_enter Try.func74, Try.ntmps74
  go_wp2
  go_loop [3, 11] (fun u i => ∃ k S : Nat, k ≤ m ∧ u = .int .i64 S ∧ i = .int .i64 k ∧ Hid ((catU Ls k).length = S)) (fun _ i => m - (intOf i).toNat)
  case atStart => exact ⟨0, 0, Nat.zero_le _, rfl, rfl, hid rfl⟩
  case round =>
    obtain ⟨k, S, hk, rfl, rfl, hS⟩ := hrel
    have hST : S ≤ T := by rw [← hS.out]; exact HLe.out k hk
    by_cases hlt : k < m
    · have hlt' : (k : Int) < (m : Int) := by omega
      obtain ⟨b, o, c, h1, h2, h3, h4, h5⟩ := Hr.out k (by have := Hm.out; omega)
      have hsu := catU_succ (Ls := Ls) (k := k) (by have := Hm.out; omega)
      have hle := HLe.out (k + 1) (by omega)
      rw [hsu, List.length_append] at hle
      have hS1 := hS.out
      obtain ⟨X, hX⟩ : ∃ X, (lE Ls k).length = X := ⟨_, rfl⟩
      rw [hX] at h1 hle
      have hX2 : S + X ≤ T := by omega
      have e1 : IntKind.i64.wrap ((S : Int) + (X : Int)) = (S : Int) + (X : Int) := IntWalk.i64_in _ (by omega)
      have HSn := hid (show (catU Ls (k + 1)).length = S + X by rw [hsu, List.length_append, hX, hS1])
      have hneg : ¬ ((S : Int) + (X : Int) < 0) := by omega
      clear h2 h3 hsu hle hS1 hX
      go_wp2
      go_round
      case rel => exact ⟨k + 1, S + X, by omega, by go_num, by go_num, HSn⟩
      case measure => simp [intOf]; omega
    · have hkm := hid (show k = m by omega)
      have hST2 := hid (show S = T by rw [← hS.out, hkm.out]; exact HT.out)
      have hS1 : 1 ≤ S := by rw [hST2.out]; omega
      go_wp2_with fail
      refine (iGrowE_any S w hS1 (by omega)).mono ?_
      rintro e w2 ⟨g2, cap2, rfl, ho2, hb2⟩
      have HO2 := hid ho2
      have HB2 := hid hb2
      clear ho2 hb2
      go_wp2
      go_loopw [6, 27] (fun u i wr => ∃ (j P cap : Nat) (g : Nat), j ≤ m ∧ u = .slice (some ⟨g, 0, none⟩) P cap ∧ i = .int .i64 j ∧ Hid ((catU Ls j).length = P ∧ wr.ownsRow w.heap.size 57 2 (.slice (some ⟨g, 0, none⟩) P cap) P (edgeVals (catU Ls j))) ∧ Hid (Below w.heap.size w wr)) (fun _ i _ => m - (intOf i).toNat)
      case atStart => exact ⟨0, 0, cap2, g2, Nat.zero_le _, rfl, rfl, hid ⟨rfl, HO2.out⟩, HB2⟩
      case round =>
        obtain ⟨j, P, cap, g, hj, rfl, rfl, hC, hB⟩ := hrel
        have hPT : P ≤ T := by rw [← hC.out.1]; exact HLe.out j hj
        by_cases hltj : j < m
        · have hltj' : (j : Int) < (m : Int) := by omega
          obtain ⟨b, o, c, h1, h2, h3, h4, h5⟩ := (Hr.out.on hB.out) j (by have := Hm.out; omega)
          have hsu := catU_succ (Ls := Ls) (k := j) (by have := Hm.out; omega)
          have hle := HLe.out (j + 1) (by omega)
          rw [hsu, List.length_append] at hle
          have hP1 := hC.out.1
          obtain ⟨X, hX⟩ : ∃ X, (lE Ls j).length = X := ⟨_, rfl⟩
          rw [hX] at h1 hle h3
          have hX2 : P + X ≤ T := by omega
          have HSn := hid (show catU Ls (j + 1) = catU Ls j ++ lE Ls j from hsu)
          have HXl := hid hX
          have HRd := hid h2
          have hrow : ∀ i, (Value.slice (some ⟨g, 0, none⟩) P cap).ownBlock = some i → w.heap.size ≤ i ∧ i < wr.heap.size := hC.out.2.lt
          obtain ⟨wo, rfl⟩ : ∃ wo : World, wo = wr := ⟨_, rfl⟩
          have hszr := hB.out.size
          clear h2 hsu hle hP1 hX
          go_wp2_with (at_builtin; go_must (refine wpList_append_lies _ rfl (.tmp 31) (.tmp 32) 26 rfl w.heap.size 57 i0 (.agg #[.int .i64 0, .int .i64 0]) 2 16 Try.underlying26 Hi.out hz0 hz1 hz2 rfl (by decide) (.slice (some ⟨g, 0, none⟩) P cap) P _ rfl hC.out.2 ⟨b, o, none⟩ X c (edgeVals (lE Ls j)) rfl (by rw [edgeVals_length, HXl.out]) (fun i u hi => by rw [Addr.add_lit]; exact reads_vals HRd.out i u hi) (vals_one _) h3 (by unfold maxLen; omega) (by omega) hszr wo.heap.size rfl ?_); intro g8 cap8 w8 hown8 hgrow8 hlie8 hg8; have Hown8 := hid hown8; have HB8 := hid (hB.out.grown hgrow8 hszr (fun i hi => (hrow i hi).1)); clear hown8 hgrow8 hlie8)
          go_roundw
          case rel => exact ⟨j + 1, P + X, cap8, g8, by omega, rfl, by go_num, hid ⟨by rw [HSn.out, List.length_append, HXl.out, hC.out.1], by rw [HSn.out, edgeVals_append]; exact Hown8.out⟩, HB8⟩
          case measure => simp [intOf]; omega
        · have hjm := hid (show j = m by omega)
          have hPe := hid (show P = T by rw [← hC.out.1, hjm.out]; exact HT.out)
          have HF := hid (OwnE.of_row hC.out.2 hC.out.1)
          go_wp2
          go_ret
          refine ⟨g, cap, by rw [hPe.out]; rfl, HF.out.2, ?_, hB.out⟩
          have h := HF.out.1
          rwa [hjm.out] at h

end Go.Proofs.Ytfdlhdgmbjdhbaa
