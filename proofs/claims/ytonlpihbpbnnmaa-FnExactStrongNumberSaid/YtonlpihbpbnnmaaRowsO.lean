/- Rows of the numbers that each number meets, in the program: rowsOf. They are parts of one table. -/
import Derived.Test.YtonlpihbpbnnmaaNearA
import Derived.Test.YtonlpihbpbnnmaaLists
import Derived.Deep.AppendLies
import Derived.Deep.DeepMust
namespace Go.Proofs.Ytonlpihbpbnnmaa
open Go.RowKit

/- Plainly: where the rows begin. -/
def offM (M : Nat → Nat → Bool) (i : Nat) : Nat := (rowsM M i).flatten.length
theorem rowsM_succ (M : Nat → Nat → Bool) (i : Nat) : rowsM M (i + 1) = rowsM M i ++ [rowL M i] := by
  unfold rowsM
  rw [List.range_succ, List.map_append]
  rfl
theorem rowsM_at {M : Nat → Nat → Bool} {n i : Nat} (h : i < n) : lI (rowsM M n) i = rowL M i := by
  unfold lI rowsM
  rw [List.getD_eq_getElem?_getD, List.getElem?_map, List.getElem?_range h]
  rfl
theorem flat_succ (M : Nat → Nat → Bool) (i : Nat) : (rowsM M (i + 1)).flatten = (rowsM M i).flatten ++ rowL M i := by
  rw [rowsM_succ, List.flatten_append]
  simp
theorem offM_succ (M : Nat → Nat → Bool) (i : Nat) : offM M (i + 1) = offM M i + (rowL M i).length := by
  unfold offM
  rw [flat_succ, List.length_append]
theorem offM_le (M : Nat → Nat → Bool) : ∀ i, 2 * offM M i + i ≤ i * i
  | 0 => by simp [offM, rowsM]
  | i + 1 => by
    have ih := offM_le M i
    have h := rowU_len M i i
    rw [offM_succ]
    have h2 : (i + 1) * (i + 1) = i * i + 2 * i + 1 := by rw [Nat.mul_add, Nat.add_mul]; omega
    unfold rowL
    omega
theorem flat_row {M : Nat → Nat → Bool} {n i j : Nat} (hi : i < n) (hj : j < (rowL M i).length) : eI (rowsM M n).flatten (offM M i + j) = eI (rowL M i) j ∧ offM M i + j < (rowsM M n).flatten.length := by
  have key : ∀ k, ∃ rest, (rowsM M (i + 1 + k)).flatten = (rowsM M i).flatten ++ (rowL M i ++ rest) := by
    intro k
    induction k with
    | zero => exact ⟨[], by rw [Nat.add_zero, flat_succ, List.append_nil]⟩
    | succ k ih =>
      obtain ⟨rest, h⟩ := ih
      exact ⟨rest ++ rowL M (i + 1 + k), by rw [← Nat.add_assoc, flat_succ, h]; simp⟩
  obtain ⟨rest, h⟩ := key (n - (i + 1))
  rw [show i + 1 + (n - (i + 1)) = n by omega] at h
  rw [h]
  refine ⟨?_, by rw [List.length_append, List.length_append]; unfold offM; omega⟩
  unfold eI offM
  rw [List.getD_eq_getElem?_getD, List.getD_eq_getElem?_getD, List.getElem?_append_right (by omega), Nat.add_sub_cancel_left, List.getElem?_append_left hj]

/-- The first k rows of N lie in block g, as parts of block gt. -/
def RoAt (w : World) (g gt N : Nat) (M : Nat → Nat → Bool) (k : Nat) : Prop :=
  ∃ cur, w.heap[g]? = some (.cells cur 34 (0, 0)) ∧ cur.size = N ∧ ∀ i, i < k → ∃ q c, cur[i]? = some (.slice q (rowL M i).length c) ∧ (0 < (rowL M i).length → q = some ⟨gt, offM M i, none⟩)
section
variable {w w' : World} {g gt N k : Nat} {M : Nat → Nat → Bool}
theorem RoAt.keep (h : RoAt w g gt N M k) (hk : w'.heap[g]? = w.heap[g]?) : RoAt w' g gt N M k := by
  obtain ⟨cur, hc, r⟩ := h
  exact ⟨cur, hk.trans hc, r⟩
theorem RoAt.lt (h : RoAt w g gt N M k) : g < w.heap.size := by
  obtain ⟨cur, hc, r⟩ := h
  exact (Array.getElem?_eq_some_iff.1 hc).1
theorem RoAt.on (h : RoAt w g gt N M k) (hb : Below w.heap.size w w') : RoAt w' g gt N M k := h.keep (hb.block g h.lt)
theorem RoAt.free (h : RoAt w g gt N M k) (j : Nat) : w.frozen? ⟨g, j, none⟩ = false := by
  obtain ⟨cur, hc, r⟩ := h
  exact frozen_of_row w g j cur _ hc
theorem RoAt.there (h : RoAt w g gt N M k) {j : Nat} (hj : j < N) : ∃ v, w.cell? ⟨g, j, none⟩ = some v := by
  obtain ⟨cur, hc, hs, r⟩ := h
  exact ⟨cur[j]'(by omega), by rw [cell_of_row w g j cur _ _ hc, Array.getElem?_eq_getElem]⟩
theorem RoAt.set (h : RoAt w g gt N M k) (hk : k < N) {q : Option Addr} {c : Nat} (hq : 0 < (rowL M k).length → q = some ⟨gt, offM M k, none⟩) : RoAt (w.setCell ⟨g, k, none⟩ (.slice q (rowL M k).length c)) g gt N M (k + 1) := by
  obtain ⟨cur, hc, hs, r⟩ := h
  refine ⟨_, heap_setCell_same _ _ _ _ _ _ hc, by simpa using hs, fun i hi => ?_⟩
  by_cases e : i = k
  · subst e
    exact ⟨q, c, by rw [Array.getElem?_setIfInBounds, if_pos rfl, if_pos (by omega)], hq⟩
  · obtain ⟨q', c', h1, h2⟩ := r i (by omega)
    exact ⟨q', c', by rw [Array.getElem?_setIfInBounds, if_neg (fun h => e h.symm)]; exact h1, h2⟩
theorem RoAt.sees (h : RoAt w g gt N M N) {C : Nat} (ht : OwnI w gt C (rowsM M N).flatten) : SeesL w (some ⟨g, 0, none⟩) (rowsM M N) := by
  refine .inr ⟨g, 0, rfl, fun i hi => ?_⟩
  rw [rowsM_len] at hi
  obtain ⟨cur, hc, hs, r⟩ := h
  obtain ⟨q, c, h1, h2⟩ := r i hi
  refine ⟨q, c, ?_, ?_⟩
  · rw [rowsM_at hi, Nat.zero_add, cell_of_row w g i cur _ _ hc]
    exact h1
  · rw [rowsM_at hi]
    by_cases h0 : 0 < (rowL M i).length
    · refine .inr ⟨gt, offM M i, h2 h0, fun j hj => ?_⟩
      obtain ⟨h3, h4⟩ := flat_row hi hj
      have h5 := ht.reads (offM M i + j) h4
      rw [h3, Nat.zero_add] at h5
      exact h5
    · exact .inl (List.eq_nil_of_length_eq_zero (by omega))
end

theorem run_threeQ (ba l L m K : Nat) (hL : l + K = L) (hm : L ≤ m) : ∃ q : Option Addr, (0 < K → q = some ⟨ba, l, none⟩) ∧ ∀ w : World,
    (Instr.slice 34 (.slice (some ⟨ba, 0, none⟩) L m) (some (.int .i64 l)) (some (.int .i64 L)) (some (.int .i64 L))).run Try.prog w = .ok (.slice q K K) w := by
  have hu : Try.prog.underlying 34 = some (.slice (Try.prog.elem 34)) := by kernel_rfl
  have hs : ∀ w, (sizeOf (Try.prog.elem 34)).run Try.prog w = .ok 1 w := fun w => by kernel_rfl
  have h := fun w : World => run_slice_lhm (P := Try.prog) (w := w) 34 (some ⟨ba, 0, none⟩) L m hu .i64 .i64 .i64 l L L (by omega) (by omega) (Int.le_refl _) (by omega)
  by_cases hK : 0 < K
  · refine ⟨some ⟨ba, l, none⟩, fun _ => rfl, fun w => ?_⟩
    rw [h w, hs w]
    simp only [Int.toNat_natCast]
    unfold sliced
    show Result.ok (Value.slice (if L = l then _ else _) (L - l) (L - l)) w = _
    rw [if_neg (by omega), show L - l = K by omega, Nat.mul_one]
    simp [Addr.add_lit]
  · refine ⟨some ⟨ba, 0, none⟩, fun h => absurd h hK, fun w => ?_⟩
    rw [h w, hs w]
    simp only [Int.toNat_natCast]
    unfold sliced
    show Result.ok (Value.slice (if L = l then _ else _) (L - l) (L - l)) w = _
    rw [if_pos (by omega), show L - l = K by omega]

theorem infoSlO8 : (Try.prog.info? 34).map (fun i => (i.zero, i.size, i.bytes)) = some (some (.slice none 0 0), 1, 24) := by kernel_rfl

set_option maxRecDepth 100000 in
set_option maxHeartbeats 8000000 in
theorem iRowsOf_any (N G : Nat) (u : Value) (M : Nat → Nat → Bool) (w : World) (eg : ∀ args w, (callFunc G args).run Try.prog w = .ok (.enter G args) w) (hN : 2 ≤ N) (hN2 : N ≤ 60)
    (hG : ∀ i j, j < i → i < N → ∀ W, Below w.heap.size w W → Calls Try.prog G #[.int .i64 i, .int .i64 j, u] W fun e' w' => e' = .returned (.bool (M i j)) ∧ Below W.heap.size W w') :
    Calls Try.prog 118 #[.int .i64 N, .func (.func G) #[] #[u]] w fun e' w' => (∃ q, e' = .returned (.slice q N N) ∧ SeesL w' q (rowsM M N)) ∧ Below w.heap.size w w' := by
  have HG := hid hG
  clear hG
  obtain ⟨j0, hj, hy0, hy1, hy2⟩ := info_parts infoInt
  obtain ⟨s0, hs, hs0, hs1, hs2⟩ := info_parts infoSlO8
  obtain ⟨K, hK⟩ : ∃ K, N * N = K := ⟨_, rfl⟩
  have hK1 : K ≤ 3600 := by rw [← hK]; exact Nat.mul_le_mul hN2 hN2
  have hNN : (N : Int) * (N : Int) = (K : Int) := by rw [← hK]; simp
  obtain ⟨C, hC⟩ : ∃ C, K / 2 = C := ⟨_, rfl⟩
  have hC1 : C ≤ 1800 := by omega
  have hKC : (K : Int).tdiv 2 = (C : Int) := by rw [Int.tdiv_eq_ediv_of_nonneg (by omega)]; omega
  obtain ⟨ZA, hZA⟩ : ∃ ZA, ZA = madeCells (Value.slice none 0 0).cells (N * 1) := ⟨_, rfl⟩
  have hmkA : ∀ w', (Instr.makeSlice 49 (.int .i64 N) (.int .i64 N)).run Try.prog w' = .ok (.slice (some ⟨w'.heap.size, 0, none⟩) N N) (w'.alloc (.cells ZA 34)) := fun w' => by
    have h := run_makeSlice (P := Try.prog) w' 49 34 s0 (.slice none 0 0) Try.underlying49 hs hs0 .i64 .i64 N N (by omega) (Int.le_refl _) (by rw [hs1]; omega) (by rw [hs2]; omega) (by omega)
    rw [hs1] at h
    rw [hZA]
    simpa using h
  obtain ⟨ZB, hZB⟩ : ∃ ZB, ZB = madeCells (Value.int .i64 0).cells (C * 1) := ⟨_, rfl⟩
  have hmkB : ∀ w', (Instr.makeSlice 34 (.int .i64 0) (.int .i64 C)).run Try.prog w' = .ok (.slice (some ⟨w'.heap.size, 0, none⟩) 0 C) (w'.alloc (.cells ZB 2)) := fun w' => by
    have h := run_makeSlice (P := Try.prog) w' 34 2 j0 (.int .i64 0) Try.underlying34 hj hy0 .i64 .i64 0 C (by omega) (by omega) (by rw [hy1]; omega) (by rw [hy2]; omega) (by omega)
    rw [hy1] at h
    rw [hZB]
    simpa using h
  have HZA := hid hZA
  have HZB := hid hZB
  have Hj := hid hj
  have HK := hid hK
  have HC := hid hC
  clear hZA hZB hj hs hK hC
  go_enter Try.func118, Try.ntmps118
  go_wp2_with fail
  obtain ⟨w3, hw3⟩ : ∃ w3, w3 = (w.alloc (.cells ZA 34)).alloc (.cells ZB 2) := ⟨_, rfl⟩
  have HB3 := hid (show Below w.heap.size w w3 by rw [hw3]; exact bfrom (on_alloc _ _) (on_alloc _ _))
  have HR3 := hid (show RoAt w3 w.heap.size (w.heap.size + 1) N M 0 by
    rw [hw3]
    refine ⟨ZA, (Below.heap_alloc _ _ _ (by simp)).trans (heap_alloc_new w _), by rw [HZA.out, size_madeCells, Nat.mul_one], fun i hi => absurd hi (by omega)⟩)
  have HO3 := hid (show OwnI w3 (w.heap.size + 1) C (rowsM M 0).flatten ∧ (rowsM M 0).flatten.length = 0 by
    refine ⟨⟨ZB, ?_, by rw [HZB.out, size_madeCells, Nat.mul_one], by simp [rowsM], by unfold maxLen; omega, fun i hi => absurd hi (by simp [rowsM])⟩, by simp [rowsM]⟩
    rw [hw3]
    have h := heap_alloc_new (w.alloc (.cells ZA 34)) (.cells ZB 2)
    rw [World.size_alloc] at h
    exact h)
  rw [← hw3]
  clear hw3 hmkA hmkB
  go_loopw [6, 19] (fun v i wr => ∃ k L : Nat, k ≤ N ∧ v = .slice (some ⟨w.heap.size + 1, 0, none⟩) L C ∧ i = .int .i64 k ∧ Hid (RoAt wr w.heap.size (w.heap.size + 1) N M k) ∧ Hid (OwnI wr (w.heap.size + 1) C (rowsM M k).flatten ∧ (rowsM M k).flatten.length = L) ∧ Hid (Below w.heap.size w wr)) (fun _ i _ => N - (intOf i).toNat)
  case atStart => exact ⟨0, 0, Nat.zero_le _, rfl, rfl, HR3, HO3, HB3⟩
  case round =>
    obtain ⟨k, L, hk, rfl, rfl, hR, hO, hB⟩ := hrel
    clear HR3 HO3 HB3
    by_cases hlt : k < N
    · have hlt' : (k : Int) < (N : Int) := by omega
      have hof := offM_le M k
      have hsq : k * k + 2 * k + 1 ≤ K := by
        have h1 : (k + 1) * (k + 1) ≤ N * N := Nat.mul_le_mul (by omega) (by omega)
        rw [HK.out] at h1
        have h2 : (k + 1) * (k + 1) = k * k + 2 * k + 1 := by rw [Nat.mul_add, Nat.add_mul]; omega
        omega
      have HL := hid (show offM M k = L from hO.out.2)
      have HF := hid (show 2 * L + 3 * k + 1 ≤ K by rw [← HL.out]; omega)
      clear hof hsq
      go_wp2
      obtain ⟨wi, rfl⟩ : ∃ wi : World, wi = wr := ⟨_, rfl⟩
      go_loopw [6, 25] (fun v i wx => ∃ j L2 : Nat, j ≤ k ∧ v = .slice (some ⟨w.heap.size + 1, 0, none⟩) L2 C ∧ i = .int .i64 j ∧ Hid (RoAt wx w.heap.size (w.heap.size + 1) N M k) ∧ Hid (OwnI wx (w.heap.size + 1) C ((rowsM M k).flatten ++ rowU M k j) ∧ ((rowsM M k).flatten ++ rowU M k j).length = L2) ∧ Hid (Below w.heap.size w wx)) (fun _ i _ => k - (intOf i).toNat)
      case atStart => exact ⟨0, L, Nat.zero_le _, rfl, rfl, hR, hid (by simpa [rowU] using hO.out), hB⟩
      case round =>
        obtain ⟨j, L2, hj', rfl, rfl, hR2, hO2, hB2⟩ := hrel
        obtain ⟨wx, rfl⟩ : ∃ wx : World, wx = wr := ⟨_, rfl⟩
        by_cases hlj : j < k
        · have hlj' : (j : Int) < (k : Int) := by omega
          have HC2 := hid (HG.out k j hlj hlt wx hB2.out)
          have HRoom := hid (show L2 + 1 ≤ C by
            have h1 := hO2.out.2
            rw [List.length_append] at h1
            have h2 := rowU_len M k j
            have h3 : (rowsM M k).flatten.length = L := HL.out
            have h4 := HF.out
            have h5 := HC.out
            omega)
          cases hM : M k j
          · go_wp2_with fail
            refine HC2.out.mono ?_
            rw [hM]
            rintro e' w5 ⟨rfl, hb5⟩
            have HR5 := hid (hR2.out.on hb5)
            have HO5 := hid (hO2.out.1.on hb5)
            have HB5 := hid (bfrom hB2.out hb5)
            clear hb5
            go_wp2
            go_roundw
            case rel => exact ⟨j + 1, L2, by omega, rfl, by go_num, HR5, hid (by rw [rowU_no hM]; exact ⟨HO5.out, hO2.out.2⟩), HB5⟩
            case measure => simp [intOf]; omega
          · go_wp2_with fail
            refine HC2.out.mono ?_
            rw [hM]
            rintro e' w5 ⟨rfl, hb5⟩
            have HR5 := hid (hR2.out.on hb5)
            have HO5 := hid (hO2.out.1.on hb5)
            have HB5 := hid (bfrom hB2.out hb5)
            have hgl : w.heap.size + 1 < w5.heap.size := HO5.out.lt
            have hgl0 : w.heap.size < w5.heap.size := HR5.out.lt
            clear hb5
            go_wp2_with (at_builtin; go_must (refine wpList_append_fits _ rfl (.tmp 32) (.tmp 34) 34 rfl 0 2 j0 1 Try.underlying34 Hj.out hy1 (w.heap.size + 1) L2 C (intVals ((rowsM M k).flatten ++ rowU M k j)) rfl ((OwnI.row HO5.out hO2.out.2 (Nat.zero_le _)).alloc _) ⟨w5.heap.size, 0, none⟩ 1 1 [.int .i64 j] rfl rfl (World.news_of_block (cs := #[.int .i64 j]) (t := 2) (fr := (0, 0)) (heap_alloc_new _ _)) (by simp [Value.oneCell']) HRoom.out ?_); intro w8 hown8 hgrow8)
            have HOwn := hid hown8
            have HGrow := hid hgrow8
            clear hown8 hgrow8
            go_roundw
            case rel =>
              refine ⟨j + 1, L2 + 1, by omega, rfl, by go_num, hid ?_, hid ?_, hid ?_⟩
              · exact HR5.out.keep ((HGrow.out.block w.heap.size (by rw [World.size_alloc]; omega) (fun e => by have := Option.some.inj e; omega)).trans (Below.heap_alloc w5 _ _ hgl0))
              · rw [rowU_yes hM, ← List.append_assoc]
                have hl : (((rowsM M k).flatten ++ rowU M k j) ++ [(j : Int)]).length = L2 + 1 := by rw [List.length_append, hO2.out.2]; rfl
                exact ⟨(OwnI.of_row (n := L2 + 1) (by rw [intVals_append]; exact HOwn.out) hl).1, hl⟩
              · exact (bfrom HB5.out (on_alloc _ _)).grown HGrow.out (by have := HB5.out.size; rw [World.size_alloc]; omega) (fun k e => by have := Option.some.inj e; omega)
            case measure => simp [intOf]; omega
        · obtain rfl : j = k := by omega
          have hLK : L + (rowL M j).length = L2 := by
            have h1 := hO2.out.2
            rw [List.length_append] at h1
            have h3 : (rowsM M j).flatten.length = L := HL.out
            unfold rowL
            omega
          obtain ⟨q, hq, hsl⟩ := run_threeQ (w.heap.size + 1) L L2 C (rowL M j).length hLK (by have := hO2.out.1.le; rw [hO2.out.2] at this; exact this)
          obtain ⟨R, hRl⟩ : ∃ R, (rowL M j).length = R := ⟨_, rfl⟩
          rw [hRl] at hsl
          obtain ⟨vo, hvo⟩ := hR2.out.there hlt
          have hfr := hR2.out.free j
          have hgl0 : w.heap.size < wx.heap.size := hR2.out.lt
          have HQ := hid hq
          have HRl := hid hRl
          have HLK := hid hLK
          clear hq hRl hLK
          go_wp2
          go_roundw
          case rel =>
            refine ⟨j + 1, L2, by omega, rfl, by go_num, hid ?_, hid ?_, hid ?_⟩
            · rw [← HRl.out]
              exact hR2.out.set hlt (fun h => by rw [HL.out]; exact HQ.out h)
            · rw [flat_succ]
              exact ⟨hO2.out.1.far (by show w.heap.size + 1 ≠ w.heap.size; omega) _, hO2.out.2⟩
            · exact hB2.out.setCell (p := ⟨w.heap.size, j, none⟩) (Nat.le_refl _) _
          case measure => simp [intOf]; omega
    · obtain rfl : k = N := by omega
      go_wp2
      go_ret
      exact ⟨⟨_, rfl, hR.out.sees hO.out.1⟩, hB.out⟩

end Go.Proofs.Ytonlpihbpbnnmaa
