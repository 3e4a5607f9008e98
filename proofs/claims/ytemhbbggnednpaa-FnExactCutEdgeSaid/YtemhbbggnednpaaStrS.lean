/- Graphs with vertices taken out, in the model: the edges that are left and the new numbers. -/
import Derived.Test.YtemhbbggnednpaaStrA
import Derived.Test.YtemhbbggnednpaaSpecAt
import Derived.Deep.AppendLies
import Derived.BigRegion
namespace Go.Proofs.Ytemhbbggnednpaa
open Go.RowKit Go.Lib

/-- The new numbers of the first k vertices, -1 for those that are taken out. -/
def nwF (f : Int) (xs : List Int) (v : Nat) : Int := if (v : Int) ∈ xs then -1 else f + numW v xs xs.length
def nmL (f : Int) (xs : List Int) (k : Nat) : List Int := (List.range k).map (nwF f xs)
theorem nmL_len (f : Int) (xs : List Int) (k : Nat) : (nmL f xs k).length = k := by simp [nmL]
theorem nmL_succ (f : Int) (xs : List Int) (k : Nat) : nmL f xs (k + 1) = nmL f xs k ++ [nwF f xs k] := by
  unfold nmL
  rw [List.range_succ, List.map_append]
  rfl
theorem nmL_at {f : Int} {xs : List Int} {k v : Nat} (h : v < k) : eI (nmL f xs k) v = nwF f xs v := by
  rw [eI_lt (by rw [nmL_len]; exact h)]
  simp [nmL]
theorem less_next (xs : List Int) (k : Nat) : (xs.filter fun x => decide (x < ((k + 1 : Nat) : Int))).length = (xs.filter fun x => decide (x < (k : Int))).length + xs.count (k : Int) := by
  induction xs with
  | nil => rfl
  | cons x xs ih =>
    rw [List.count_cons, List.filter_cons, List.filter_cons]
    by_cases h1 : x < (k : Int)
    · have h2 : x < ((k + 1 : Nat) : Int) := by omega
      have h3 : (x == (k : Int)) = false := by rw [beq_eq_false_iff_ne]; omega
      rw [if_pos (decide_eq_true h1), if_pos (decide_eq_true h2), h3, List.length_cons, List.length_cons, ih]
      simp
      omega
    · by_cases h2 : x = (k : Int)
      · have h3 : (x == (k : Int)) = true := by rw [beq_iff_eq]; exact h2
        have h4 : x < ((k + 1 : Nat) : Int) := by omega
        rw [if_pos (decide_eq_true h4), if_neg (by simpa using h1), h3, List.length_cons, ih]
        simp
        omega
      · have h3 : (x == (k : Int)) = false := by rw [beq_eq_false_iff_ne]; exact h2
        have h4 : ¬ x < ((k + 1 : Nat) : Int) := by omega
        rw [if_neg (by simpa using h4), if_neg (by simpa using h1), h3, ih]
        simp
theorem numW_next {xs : List Int} (hn : xs.Nodup) (k : Nat) : numW ((k + 1 : Nat) : Int) xs xs.length = if (k : Int) ∈ xs then numW k xs xs.length else numW k xs xs.length + 1 := by
  unfold numW
  rw [List.take_length, less_next]
  by_cases h : (k : Int) ∈ xs
  · rw [if_pos h, List.Nodup.count hn, if_pos h]
    omega
  · rw [if_neg h, List.count_eq_zero.2 h]
    omega
theorem numW_start {xs : List Int} (h0 : ∀ x, x ∈ xs → 0 ≤ x) : numW ((0 : Nat) : Int) xs xs.length = 0 := by
  unfold numW
  rw [List.take_length, List.filter_eq_nil_iff.2 fun x hx => by have := h0 x hx; simp; omega]
  rfl
theorem numW_pos {xs : List Int} (hn : xs.Nodup) (h0 : ∀ x, x ∈ xs → 0 ≤ x) : ∀ k : Nat, 0 ≤ numW (k : Int) xs xs.length ∧ numW (k : Int) xs xs.length ≤ k
  | 0 => by rw [numW_start h0]; omega
  | k + 1 => by
    have h := numW_pos hn h0 k
    rw [numW_next hn]
    split <;> omega
theorem nwF_yes {f : Int} {xs : List Int} {v : Nat} (h : (v : Int) ∈ xs) : nwF f xs v = -1 := by unfold nwF; rw [if_pos h]
theorem nwF_no {f : Int} {xs : List Int} {v : Nat} (h : ¬ (v : Int) ∈ xs) : nwF f xs v = f + numW v xs xs.length := by unfold nwF; rw [if_neg h]

/-- What holds at the end of a round, behind the number that was put on. -/
theorem without_rel {w wo w1 : World} {N b off n c k cap cap' g : Nat} {f F : Int} {q : Option Addr} {xs : List Int} {m : Nat} {V : Value} (hlt : k < N) (hF : F = f + numW ((k + 1 : Nat) : Int) xs m)
    (hown : w1.ownsRow (w.heap.size + 1) 2 1 (.slice (some ⟨g, 0, none⟩) (k + 1) cap') (k + 1) (intVals (nmL f xs (k + 1)))) (hne : ∀ g, (Value.slice q k cap).ownBlock = some g → g ≠ w.heap.size + 1 + 1)
    (hlie : (Value.slice q k cap).ownBlock = some g ∨ g = wo.heap.size + 1) (hrow : ∀ g, (Value.slice q k cap).ownBlock = some g → w.heap.size + 1 ≤ g ∧ g < wo.heap.size)
    (hgr : (wo.alloc (.cells #[V] 2)).grownBy w1 (Value.slice q k cap).ownBlock) (hOE : wo.ownsRow (w.heap.size + 1 + 1) 58 2 (.slice (some ⟨w.heap.size + 1 + 1, 0, none⟩) 0 0) 0 []) (hB : Below w.heap.size w wo) (hX : Box wo w.heap.size N (some ⟨b, off, none⟩) n c) (hz : w.heap.size + 1 + 1 < wo.heap.size) :
    ∃ (k' cap'' : Nat) (F' : Int) (q' : Option Addr), k' ≤ N ∧ Hid (F' = f + numW (k' : Int) xs m) ∧ Value.int .i64 F = .int .i64 F' ∧ Value.slice (some ⟨g, 0, none⟩) (k + 1) cap' = .slice q' k' cap'' ∧ Value.int .i64 ((k : Int) + 1) = .int .i64 (k' : Int) ∧ Hid (w1.ownsRow (w.heap.size + 1) 2 1 (.slice q' k' cap'') k' (intVals (nmL f xs k')) ∧ ∀ g, (Value.slice q' k' cap'').ownBlock = some g → g ≠ w.heap.size + 1 + 1) ∧ Hid (w1.ownsRow (w.heap.size + 1 + 1) 58 2 (.slice (some ⟨w.heap.size + 1 + 1, 0, none⟩) 0 0) 0 []) ∧ Hid (Below w.heap.size w w1) ∧ Hid (Box w1 w.heap.size N (some ⟨b, off, none⟩) n c) ∧ w.heap.size + 1 + 1 < w1.heap.size := by
  refine ⟨k + 1, cap', F, some ⟨g, 0, none⟩, by omega, hid hF, rfl, rfl, by go_num, hid ⟨hown, fun g' e => ?_⟩, hid ?_, hid ?_, hid ?_, ?_⟩
  · have e : g = g' := Option.some.inj e
    rw [← e]
    rcases hlie with h | h
    · exact hne g h
    · omega
  · refine (hOE.alloc _).kept hgr ?_
    by_cases hq : (Value.slice q k cap).ownBlock = none
    · exact .inr (by rw [hq]; simp [Value.ownBlock])
    · refine .inr fun e => ?_
      exact hne (w.heap.size + 1 + 1) e.symm rfl
  · exact (hB.alloc hB.size _).grown hgr (by simp; omega) (fun j hj => by have := (hrow j hj).1; omega)
  · exact (hX.on (on_alloc _ _)).kept hgr (fun h => by have := (hrow _ h.symm).1; omega)
  · have := hgr.size; simp at this; omega

set_option maxRecDepth 100000 in
set_option maxHeartbeats 8000000 in
theorem sWithout_any (N b off n c xb xo m mc : Nat) (f : Int) (es : List (Int × Int)) (xs : List Int) (w : World) (hn : es.length = n) (hn30 : n ≤ 30) (hN : N ≤ 20) (hN1 : 1 ≤ N) (hr : ReadsE w b off es) (hE : EndsIn N es) (hf : 0 ≤ f ∧ f ≤ 1000) (hx : xs.length = m) (hm : m ≤ 10) (hrx : ReadsI w xb xo xs) (hnd : xs.Nodup) (h0 : ∀ x, x ∈ xs → 0 ≤ x)
    (hxw : xb < w.heap.size) :
    Calls Try.prog 39 #[.agg #[.int .i64 N, .slice (some ⟨b, off, none⟩) n c], .int .i64 f, .slice (some ⟨xb, xo, none⟩) m mc] w fun e w' => ∃ gN capN q cap, e = .returned (.tuple #[.slice q (mdU f es xs n).length cap, .slice (some ⟨gN, 0, none⟩) N capN]) ∧
      FreshE w.heap.size w' q (mdU f es xs n).length cap (mdU f es xs n) ∧ (w.heap.size ≤ gN ∧ OwnI w' gN capN (nmL f xs N) ∧ ∀ g, (Value.slice q (mdU f es xs n).length cap).ownBlock = some g → gN ≠ g) ∧ Below w.heap.size w w' := by
  have Hn := hid hn
  have Hr := hid hr
  have HE := hid hE
  have Hx := hid hx
  have Hrx := hid hrx
  have Hnd := hid hnd
  have H0 := hid h0
  obtain ⟨i0, hi, hz0, hz1, hz2⟩ := info_parts infoEdge
  obtain ⟨j0, hj, hy0, hy1, hy2⟩ := info_parts infoInt
  have Hi := hid hi
  have Hj := hid hj
  have hf1 := hf.1
  have hf2 := hf.2
  clear hn hr hE hx hrx hnd h0 hi hj hf
  go_enter Try.func39, Try.ntmps39
  go_wp2_with fail
  obtain ⟨W1, hW1⟩ : ∃ W1, W1 = ((w.alloc (.cells #[.int .i64 N, .slice (some ⟨b, off, none⟩) n c] 28)).alloc (.cells #[] 2)).alloc (.cells #[] 58) := ⟨_, rfl⟩
  have HX1 : Hid (Box W1 w.heap.size N (some ⟨b, off, none⟩) n c) := hid (by rw [hW1]; exact ((Box.new w N (some ⟨b, off, none⟩) n c 28).on (on_alloc _ _)).on (on_alloc _ _))
  have HB1 : Hid (Below w.heap.size w W1) := hid (by rw [hW1]; exact bfrom (bfrom (on_alloc _ _) (on_alloc _ _)) (on_alloc _ _))
  have HN1 : Hid (W1.ownsRow (w.heap.size + 1) 2 1 (.slice (some ⟨w.heap.size + 1, 0, none⟩) 0 0) 0 []) := hid (by rw [hW1]; exact (row_new_int w _).alloc _)
  have HE1 : Hid (W1.ownsRow (w.heap.size + 1 + 1) 58 2 (.slice (some ⟨w.heap.size + 1 + 1, 0, none⟩) 0 0) 0 []) := hid (by
    rw [hW1]
    have h := World.ownsRow_made (base := w.heap.size + 1 + 1) (e := 58) (size := 2) ((w.alloc (.cells #[.int .i64 N, .slice (some ⟨b, off, none⟩) n c] 28)).alloc (.cells #[] 2)) #[] 0 (by simp only [World.size_alloc]; omega) (Nat.zero_le _) rfl
    simpa only [World.size_alloc] using h)
  have hs1 : w.heap.size + 1 + 1 < W1.heap.size := by rw [hW1]; simp only [World.size_alloc]; omega
  rw [← hW1]
  clear hW1
  have HF0 := hid (show numW ((0 : Nat) : Int) xs m = 0 by rw [← Hx.out]; exact numW_start H0.out)
  have HNx := hid (show ∀ k : Nat, numW ((k + 1 : Nat) : Int) xs m = if (k : Int) ∈ xs then numW k xs m else numW k xs m + 1 from fun k => by rw [← Hx.out]; exact numW_next Hnd.out k)
  have HPs := hid (show ∀ k : Nat, 0 ≤ numW (k : Int) xs m ∧ numW (k : Int) xs m ≤ k from fun k => by rw [← Hx.out]; exact numW_pos Hnd.out H0.out k)
  go_loopw [1, 8, 10] (fun fr u i wr => ∃ (k cap : Nat) (F : Int) (q : Option Addr), k ≤ N ∧ Hid (F = f + numW (k : Int) xs m) ∧ fr = .int .i64 F ∧ u = .slice q k cap ∧ i = .int .i64 k ∧ Hid (wr.ownsRow (w.heap.size + 1) 2 1 (.slice q k cap) k (intVals (nmL f xs k)) ∧ ∀ g, (Value.slice q k cap).ownBlock = some g → g ≠ w.heap.size + 1 + 1) ∧ Hid (wr.ownsRow (w.heap.size + 1 + 1) 58 2 (.slice (some ⟨w.heap.size + 1 + 1, 0, none⟩) 0 0) 0 []) ∧ Hid (Below w.heap.size w wr) ∧ Hid (Box wr w.heap.size N (some ⟨b, off, none⟩) n c) ∧ w.heap.size + 1 + 1 < wr.heap.size) (fun _ _ i _ => N - (intOf i).toNat)
  case atStart => exact ⟨0, 0, f, _, Nat.zero_le _, hid (by rw [HF0.out]; omega), rfl, rfl, rfl, hid ⟨HN1.out, fun g h => by have e : w.heap.size + 1 = g := Option.some.inj h; omega⟩, HE1, HB1, HX1, hs1⟩
  case round =>
    obtain ⟨k, cap, F, q, hk, hF, rfl, rfl, rfl, hO, hOE, hB, hX, hzr⟩ := hrel
    have hx := hX.out.1
    have hy := hX.out.2
    have hl := hX.out.lt
    obtain ⟨wo, rfl⟩ : ∃ wo : World, wo = wr := ⟨_, rfl⟩
    by_cases hlt : k < N
    · have hFp : 0 ≤ F ∧ F ≤ 1020 := by have h := HPs.out k; have := hF.out; omega
      have hF1 := hFp.1
      have hF2 := hFp.2
      clear hFp
      go_wp2_with fail
      go_loopw [11, 12] (fun o i wi => ∃ j : Nat, j ≤ m ∧ o = .int .i64 (if (k : Int) ∈ xs.take j then -1 else F) ∧ i = .int .i64 j ∧ wo = wi) (fun _ i _ => m - (intOf i).toNat)
      case atStart => exact ⟨0, Nat.zero_le _, by simp, rfl, rfl⟩
      case round =>
        obtain ⟨j, hj, rfl, rfl, rfl⟩ := hrel
        by_cases hlj : j < m
        · have hcx := Hrx.out.on hB.out j (by have := Hx.out; omega)
          have htk := hid (take_int (xs := xs) (k := j) (by have := Hx.out; omega))
          obtain ⟨X, hX0⟩ : ∃ X, eI xs j = X := ⟨_, rfl⟩
          rw [hX0] at hcx
          have HX0 := hid hX0
          have hxw' : xb < wo.heap.size := by have := hB.out.size; omega
          clear hX0
          by_cases he : X = (k : Int)
          · have heb : (X == (k : Int)) = true := by simpa using he
            go_wp2_with fail
            go_roundw
            case rel => exact ⟨j + 1, by omega, by rw [htk.out, HX0.out, if_pos (by simp [he])], by go_num, trivial⟩
            case measure => simp [intOf]; omega
          · have heb : (X == (k : Int)) = false := by simpa using he
            have hme := hid (show ((k : Int) ∈ xs.take (j + 1)) = ((k : Int) ∈ xs.take j) from propext (by rw [htk.out, HX0.out, List.mem_append, List.mem_singleton]; constructor; (rintro (h | h); exact h; exact absurd h.symm he); exact Or.inl))
            go_wp2_with fail
            go_roundw
            case rel => exact ⟨j + 1, by omega, by simp only [hme.out], by go_num, trivial⟩
            case measure => simp [intOf]; omega
        · obtain rfl : j = m := by omega
          have hall : xs.take j = xs := List.take_of_length_le (by rw [Hx.out]; exact Nat.le_refl _)
          rw [hall]
          clear hall
          have hrow : ∀ g, (Value.slice q k cap).ownBlock = some g → w.heap.size + 1 ≤ g ∧ g < wo.heap.size := hO.out.1.lt
          by_cases hin : (k : Int) ∈ xs
          · have HV := hid (nwF_yes (f := f) hin)
            have HFn := hid (show F = f + numW ((k + 1 : Nat) : Int) xs j by rw [HNx.out k, if_pos hin]; exact hF.out)
            rw [if_pos hin]
            clear hin
            go_wp2_with (at_builtin; go_must (refine wpList_append_lies _ rfl (.tmp 41) (.tmp 43) 38 rfl (w.heap.size + 1) 2 j0 (.int .i64 0) 1 8 Try.underlying38 Hj.out hy0 hy1 hy2 rfl (by decide) (.slice q k cap) k _ rfl (hO.out.1.alloc _) ⟨wo.heap.size, 0, none⟩ 1 1 [.int .i64 (-1)] rfl rfl (World.news_of_block (cs := #[.int .i64 (-1)]) (t := 2) (fr := (0, 0)) (heap_alloc_new wo _)) (by simp [Value.oneCell']) (by decide) (by unfold maxLen; omega) (by omega) (by simp; omega) (wo.heap.size + 1) (by simp) ?_); intro g cap' w1 hown1 hgrow1 hlie hg1; have Hown := hid hown1; have Hgrow := hid hgrow1; have Hlie := hid hlie; clear hown1 hgrow1 hlie)
            go_roundw
            case rel => exact without_rel hlt HFn.out (by rw [nmL_succ, HV.out, intVals_append]; exact Hown.out) hO.out.2 Hlie.out hrow Hgrow.out hOE.out hB.out hX.out hzr
            case measure => simp [intOf]; omega
          · have HV := hid ((nwF_no (f := f) hin).trans (by rw [Hx.out, ← hF.out]))
            have HFn := hid (show F + 1 = f + numW ((k + 1 : Nat) : Int) xs j by rw [HNx.out k, if_neg hin]; have := hF.out; omega)
            rw [if_neg hin]
            clear hin
            have hge : decide (0 ≤ F) = true := decide_eq_true hF1
            have hw1 : wrap64 (F + 1) = F + 1 := IntWalk.wrap64_in _ (by omega)
            go_wp2_with (at_builtin; go_must (refine wpList_append_lies _ rfl (.tmp 41) (.tmp 43) 38 rfl (w.heap.size + 1) 2 j0 (.int .i64 0) 1 8 Try.underlying38 Hj.out hy0 hy1 hy2 rfl (by decide) (.slice q k cap) k _ rfl (hO.out.1.alloc _) ⟨wo.heap.size, 0, none⟩ 1 1 [.int .i64 F] rfl rfl (World.news_of_block (cs := #[.int .i64 F]) (t := 2) (fr := (0, 0)) (heap_alloc_new wo _)) (by simp [Value.oneCell']) (by decide) (by unfold maxLen; omega) (by omega) (by simp; omega) (wo.heap.size + 1) (by simp) ?_); intro g cap' w1 hown1 hgrow1 hlie hg1; have Hown := hid hown1; have Hgrow := hid hgrow1; have Hlie := hid hlie; clear hown1 hgrow1 hlie)
            go_roundw
            case rel => exact without_rel hlt HFn.out (by rw [nmL_succ, HV.out, intVals_append]; exact Hown.out) hO.out.2 Hlie.out hrow Hgrow.out hOE.out hB.out hX.out hzr
            case measure => simp [intOf]; omega
    · obtain rfl : k = N := by omega
      have hfr : FreshI (w.heap.size + 1) wo q k cap (nmL f xs k) := ⟨hO.out.1, nmL_len f xs k⟩
      rcases hfr.form with ⟨_, hk0, _⟩ | ⟨gN, rfl, hgN, hoN⟩
      · omega
      have hgne : gN ≠ w.heap.size + 1 + 1 := hO.out.2 gN rfl
      have HON := hid hoN
      clear hfr hoN hO
      go_wp2_with fail
      go_loopw [9, 13] (fun u i wi => ∃ (j l cap2 : Nat) (q2 : Option Addr), j ≤ n ∧ Hid ((mdU f es xs j).length = l) ∧ u = .slice q2 l cap2 ∧ i = .int .i64 j ∧ Hid (wi.ownsRow (w.heap.size + 1 + 1) 58 2 (.slice q2 l cap2) l (edgeVals (mdU f es xs j)) ∧ ∀ g, (Value.slice q2 l cap2).ownBlock = some g → gN ≠ g) ∧ Hid (OwnI wi gN cap (nmL f xs k)) ∧ Hid (Below w.heap.size w wi) ∧ Hid (Box wi w.heap.size k (some ⟨b, off, none⟩) n c)) (fun _ i _ => n - (intOf i).toNat)
      case atStart => exact ⟨0, 0, 0, _, Nat.zero_le _, hid rfl, rfl, rfl, hid ⟨hOE.out, fun g h => by have e : w.heap.size + 1 + 1 = g := Option.some.inj h; omega⟩, HON, hB, hX⟩
      case round =>
        clear hx hy hl
        obtain ⟨j, l, cap2, q2, hj, hl2, rfl, rfl, hO2, hN2, hB2, hX2⟩ := hrel
        have hx := hX2.out.1
        have hy := hX2.out.2
        have hl := hX2.out.lt
        have hgl := hN2.out.lt
        obtain ⟨wi, rfl⟩ : ∃ wi : World, wi = wr := ⟨_, rfl⟩
        by_cases hlt : j < n
        · have hml : j < es.length := by rw [Hn.out]; exact hlt
          have hok := HE.out j hml
          obtain ⟨X, hX0⟩ : ∃ X : Nat, eA es j = X := ⟨_, (Int.toNat_of_nonneg hok.1.1).symm⟩
          obtain ⟨Y, hY0⟩ : ∃ Y : Nat, eB es j = Y := ⟨_, (Int.toNat_of_nonneg hok.2.1).symm⟩
          have hc1 := (Hr.out.on hB2.out j hml).1
          have hc2 := (Hr.out.on hB2.out j hml).2
          rw [hX0] at hc1
          rw [hY0] at hc2
          have hXk : X < k := by omega
          have hYk : Y < k := by omega
          have hXk' : (X : Int) < (k : Int) := by omega
          have hYk' : (Y : Int) < (k : Int) := by omega
          have hbw' := World.block_lt_of_cell? wi _ hc1
          have hnX := hN2.out.reads X (by rw [nmL_len]; exact hXk)
          have hnY := hN2.out.reads Y (by rw [nmL_len]; exact hYk)
          rw [Nat.zero_add, nmL_at hXk] at hnX
          rw [Nat.zero_add, nmL_at hYk] at hnY
          obtain ⟨a, ha⟩ : ∃ a, nwF f xs X = a := ⟨_, rfl⟩
          obtain ⟨d, hd⟩ : ∃ d, nwF f xs Y = d := ⟨_, rfl⟩
          rw [ha] at hnX
          rw [hd] at hnY
          have hlj : l ≤ j := by rw [← hl2.out]; exact mdU_len f es xs j
          have hrow : ∀ g, (Value.slice q2 l cap2).ownBlock = some g → w.heap.size + 1 + 1 ≤ g ∧ g < wi.heap.size := hO2.out.1.lt
          by_cases hXin : (X : Int) ∈ xs
          · have hg := hid (mdU_no (f := f) (show outG es xs j = false by unfold outG; rw [hX0, decide_eq_true hXin]; rfl))
            obtain rfl : -1 = a := by rw [← ha, nwF_yes hXin]
            have HX0 := hid (And.intro hX0 hY0)
            clear ha hd hX0 hY0 hok hXin
            go_wp2
            go_region
            go_wp2
            go_roundw
            case rel => exact ⟨j + 1, l, cap2, q2, by omega, hid (by rw [hg.out]; exact hl2.out), rfl, by go_num, hid (by rw [hg.out]; exact hO2.out), hN2, hid hB2.out.drew, hX2⟩
            case measure => simp [intOf]; omega
          · have hapos : 0 ≤ a := by rw [← ha, nwF_no hXin, Hx.out]; have := HPs.out X; omega
            have hab : decide (0 ≤ a) = true := decide_eq_true hapos
            by_cases hYin : (Y : Int) ∈ xs
            · have hg := hid (mdU_no (f := f) (show outG es xs j = false by unfold outG; rw [hY0, decide_eq_true hYin]; simp))
              obtain rfl : -1 = d := by rw [← hd, nwF_yes hYin]
              clear ha hd hX0 hY0 hok hXin hYin
              go_wp2
              go_region
              go_wp2
              go_roundw
              case rel => exact ⟨j + 1, l, cap2, q2, by omega, hid (by rw [hg.out]; exact hl2.out), rfl, by go_num, hid (by rw [hg.out]; exact hO2.out), hN2, hid hB2.out.drew, hX2⟩
              case measure => simp [intOf]; omega
            · have hdpos : 0 ≤ d := by rw [← hd, nwF_no hYin, Hx.out]; have := HPs.out Y; omega
              have hdb : decide (0 ≤ d) = true := decide_eq_true hdpos
              have hg := hid (show mdU f es xs (j + 1) = mdU f es xs j ++ [(a, d)] by rw [mdU_yes (show outG es xs j = true by unfold outG; rw [hX0, hY0, decide_eq_false hXin, decide_eq_false hYin]; rfl), hX0, hY0, ← ha, ← hd, nwF_no hXin, nwF_no hYin])
              clear ha hd hX0 hY0 hok hXin hYin
              go_wp2
              go_region
              go_wp2_with (at_builtin; go_must (refine wpList_append_lies _ rfl (.tmp 76) (.tmp 80) 26 rfl (w.heap.size + 1 + 1) 58 i0 (.agg #[.int .i64 0, .int .i64 0]) 2 16 Try.underlying26 Hi.out hz0 hz1 hz2 rfl (by decide) (.slice q2 l cap2) l _ rfl (World.ownsRow.alloc (show wi.drew.ownsRow _ _ _ _ _ _ from hO2.out.1) _) ⟨wi.heap.size, 0, none⟩ 1 1 [.int .i64 a, .int .i64 d] rfl rfl (World.news_of_block (cs := #[.int .i64 a, .int .i64 d]) (t := 58) (fr := (0, 0)) (heap_alloc_new _ _)) (by simp [Value.oneCell']) (by decide) (by unfold maxLen; omega) (by omega) (by simp; omega) (wi.heap.size + 1) (by simp) ?_); intro g cap' w1 hown1 hgrow1 hlie hg1; have Hown := hid hown1; have Hgrow := hid hgrow1; have Hlie := hid hlie; clear hown1 hgrow1 hlie)
              go_roundw
              case rel =>
                refine ⟨j + 1, l + 1, cap', some ⟨g, 0, none⟩, by omega, hid (by rw [hg.out, List.length_append, hl2.out]; rfl), rfl, by go_num, hid ⟨by rw [hg.out, edgeVals_append]; exact Hown.out, fun g' e => ?_⟩, hid ?_, hid ?_, hid ?_⟩
                · have e : g = g' := Option.some.inj e
                  rw [← e]
                  rcases Hlie.out with h | h
                  · exact hO2.out.2 g h
                  · have h3 := hgl
                    first | omega | (simp at h; omega)
                · exact OwnI.keep (OwnI.alloc (show OwnI wi.drew gN cap (nmL f xs k) from hN2.out) _) (Hgrow.out.block gN (by simp; omega) (fun e => hO2.out.2 gN e.symm rfl))
                · exact (hB2.out.drew.alloc hB2.out.size _).grown Hgrow.out (by simp; have := hB2.out.size; omega) (fun j hj => by have := (hrow j hj).1; omega)
                · exact ((show Box wi.drew w.heap.size k (some ⟨b, off, none⟩) n c from hX2.out).on (on_alloc _ _)).kept Hgrow.out (fun h => by have := (hrow _ h.symm).1; omega)
              case measure => simp [intOf]; omega
        · obtain rfl : j = n := by omega
          go_wp2
          obtain rfl : (mdU f es xs j).length = l := hl2.out
          go_ret2
          exact ⟨gN, cap, q2, cap2, rfl, FreshE.less ⟨hO2.out.1, rfl⟩ (by omega), ⟨by omega, hN2.out, hO2.out.2⟩, hB2.out⟩

end Go.Proofs.Ytemhbbggnednpaa
