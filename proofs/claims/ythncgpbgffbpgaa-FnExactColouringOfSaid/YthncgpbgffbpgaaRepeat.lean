/- slices.Repeat of one number, at most twenty times. -/
import Derived.Test.YthncgpbgffbpgaaLawsD
import Derived.Laws.CopyOwn
import Derived.Laws.Bits64b
import Derived.Deep.RegionLaw
namespace Go.Proofs.Ythncgpbgffbpgaa
open Go.RowKit

theorem mask20 (n : Nat) (h : n ≤ 20) : bits .and .u64 (n : Int) 4294967295 = (n : Int) := by
  have h1 := bits_and_u64_nat n 4294967295 (by omega) (by omega)
  have e : n &&& 4294967295 = n % 4294967296 := Nat.and_two_pow_sub_one_eq_mod n 32
  rw [e, Nat.mod_eq_of_lt (by omega)] at h1
  exact h1
theorem mask1 : bits .and .u64 1 4294967295 = 1 := mask20 1 (by omega)
theorem div20 (n : Nat) (h : n ≤ 20) : (n : Int) / 4294967296 = 0 := by omega
theorem wrap20 (n : Nat) (h : n ≤ 20) : IntKind.u64.wrap (n : Int) = (n : Int) := by rw [IntKind.wrap_u64]; omega

set_option maxRecDepth 100000 in
set_option maxHeartbeats 2000000 in
theorem iMul64_one (N : Nat) (hN : N ≤ 20) (w : World) : Calls Try.prog 91 #[.int .u64 1, .int .u64 N] w fun e w' => e = .returned (.tuple #[.int .u64 0, .int .u64 N]) ∧ w = w' := by
  have m0 := mask20 0 (by omega)
  have m1 := mask1
  have m2 := mask20 N hN
  have d1 := div20 N hN
  have u1 := wrap20 N hN
  go_enter Try.func91, Try.ntmps91
  go_wp2
  go_ret2
  exact ⟨rfl, rfl⟩

set_option maxRecDepth 100000 in
set_option maxHeartbeats 2000000 in
theorem iMul_one (N : Nat) (hN : N ≤ 20) (w : World) : Calls Try.prog 84 #[.int .u64 1, .int .u64 N] w fun e w' => e = .returned (.tuple #[.int .u64 0, .int .u64 N]) ∧ w = w' := by
  go_enter Try.func84, Try.ntmps84
  go_wp2_with (go_at_call 91; refine (iMul64_one N hN _).mono ?_; rintro e w' ⟨rfl, rfl⟩)
  go_ret2
  exact ⟨rfl, rfl⟩

theorem rep_splice {cur : List Value} {k m N : Nat} {v : Value} (hl : cur.length = N) (hk : k + m ≤ N) (h : ∀ i, i < k → cur[i]? = some v) :
    (splice cur k (List.replicate m v)).length = N ∧ ∀ i, i < k + m → (splice cur k (List.replicate m v))[i]? = some v := by
  refine ⟨by rw [length_splice _ _ _ (by rw [List.length_replicate]; omega), hl], fun i hi => ?_⟩
  unfold splice
  by_cases h1 : i < k
  · rw [List.getElem?_append_left (by rw [List.length_take]; omega), List.getElem?_take, if_pos h1]
    exact h i h1
  · rw [List.getElem?_append_right (by rw [List.length_take]; omega), List.length_take, List.getElem?_append_left (by rw [List.length_replicate]; omega), List.getElem?_replicate, if_pos (by omega)]

theorem addr_zero (g j : Nat) : (Addr.add ⟨g, 0, none⟩ j) = ⟨g, j, none⟩ := by cases j <;> simp [Addr.add]

/-- The block's first k cells hold the number x. -/
def RepI (w : World) (g N : Nat) (x : Int) (k : Nat) : Prop := ∃ cur : List Value, w.heap[g]? = some (.cells cur.toArray 2 (0, 0)) ∧ cur.length = N ∧ ∀ i, i < k → cur[i]? = some (.int .i64 x)
theorem repI_own {w : World} {g N : Nat} {x : Int} (h : RepI w g N x N) (hN : N ≤ 20) : OwnI w g N (List.replicate N x) := by
  obtain ⟨cur, h1, h2, h3⟩ := h
  refine ⟨_, h1, by simpa using h2, by simp, by unfold maxLen; omega, fun i hi => ?_⟩
  rw [List.length_replicate] at hi
  rw [eI_lt (by simpa using hi)]
  simpa using h3 i hi

set_option maxRecDepth 100000 in
set_option maxHeartbeats 4000000 in
theorem iRepeat_one (N b off c : Nat) (x : Int) (w : World) (hN1 : 1 ≤ N) (hN : N ≤ 20) (hr : w.cell? ⟨b, off, none⟩ = some (.int .i64 x)) :
    Calls Try.prog 72 #[.slice (some ⟨b, off, none⟩) 1 c, .int .i64 N] w fun e w' => ∃ g, e = .returned (.slice (some ⟨g, 0, none⟩) N N) ∧ w.heap.size ≤ g ∧ OwnI w' g N (List.replicate N x) ∧ Below w.heap.size w w' := by
  obtain ⟨j0, hj, hy0, hy1, hy2⟩ := info_parts infoInt
  have Hj := hid hj
  have Hr := hid hr
  clear hj
  go_enter Try.func72, Try.ntmps72
  have hsz : (Try.prog.info? 2).map (·.size) = some 1 := by rw [Hj.out]; simp [hy1]
  have Hsz := hid hsz
  clear hsz
  have e1 : decide ((N : Int) < 0) = false := by simp
  have hbw : b < w.heap.size := World.block_lt_of_cell? w _ hr
  go_wp2_with (first
    | (go_at_call 84; refine (iMul_one N hN _).mono ?_; rintro e w' ⟨rfl, rfl⟩)
    | (at_make; go_loud (refine wpList_make_full _ rfl _ _ 25 rfl w.heap.size 2 j0 (.int .i64 0) 1 Try.underlying25 Hj.out hy0 hy1 _ _ _ _ N rfl rfl rfl rfl (by rw [hy2]; omega) (by unfold maxLen; omega) (Nat.le_refl _) ?_; intro w4 hown hgrow; have Hb4 := hid ((Below.refl w.heap.size w).grown hgrow (Nat.le_refl _) (fun k e => by cases e)); have Ho4 := hid (OwnI.made hown); clear hown hgrow; obtain ⟨cur, cg, cs1, cs2, cm, cr⟩ := Ho4.out; have Hcg := hid (show w4.heap[w.heap.size]? = some (.cells cur.toList.toArray 2 (0, 0)) from cg); have hcl : cur.toList.length = N := cs1; have Hcl := hid hcl; have Hr4 := hid ((Hb4.out.cell (p := ⟨b, off, none⟩) hbw).trans Hr.out); clear cg cs1 cs2 cm cr hcl))
    | (have HcG := Hcl; refine wpList_copy_splice (o := ⟨some 33, _, _, _, _, _⟩) rfl (.tmp 31) (.tmp 32) 25 25 rfl 2 Try.underlying25 Hsz.out (some ⟨w.heap.size, 0, none⟩) (some ⟨b, off, none⟩) N N 1 c rfl rfl w.heap.size 0 cur.toList 2 Hcg.out (List.replicate 1 (.int .i64 x)) (by rw [List.length_replicate]; exact (Nat.min_eq_left hN1).symm) (fun _ => ⟨rfl, _, rfl, fun j v hv => by (rcases j with _ | j); (· simp at hv; subst hv; exact Hr4.out); (· simp at hv)⟩) (by rw [List.length_replicate, Hcl.out]; omega) (fun v hv => by simp at hv; subst hv; rfl) w.heap.size w Hb4.out (Nat.le_refl _) ?_; intro w5 hg5 hb5; have Hb5 := hid hb5; clear hb5))
  have HK := hid (show RepI w5 w.heap.size N x 1 from ⟨_, hg5.out, (rep_splice (m := 1) (k := 0) Hcl.out (by omega) (fun i hi => by omega)).1, fun i hi => (rep_splice (m := 1) (k := 0) Hcl.out (by omega) (fun i hi => by omega)).2 i (by omega)⟩)
  clear hg5
  go_loopw [8] (fun u wr => ∃ k : Nat, 1 ≤ k ∧ k ≤ N ∧ u = .int .i64 k ∧ Hid (RepI wr w.heap.size N x k) ∧ Hid (Below w.heap.size w wr)) (fun u _ => N - (intOf u).toNat)
  case atStart => exact ⟨1, by omega, hN1, rfl, HK, Hb5⟩
  case round =>
    obtain ⟨k, hk1, hk, rfl, hO, hB⟩ := hrel
    clear HK Hb5
    by_cases hlt : k < N
    · obtain ⟨cur2, dg, dl, dr⟩ := hO.out
      have Hdg := hid dg
      have Hdl := hid dl
      have Hdr := hid dr
      clear dg dl dr
      obtain ⟨m, hm⟩ : ∃ m, m = min k (N - k) := ⟨_, rfl⟩
      have hmk : k + m ≤ N := by omega
      have hm1 : 1 ≤ m := by omega
      have Hm := hid hm
      clear hm
      obtain ⟨wo, rfl⟩ : ∃ wo : World, wo = wr := ⟨_, rfl⟩
      have hcell : ∀ j, j < k → wo.cell? ⟨w.heap.size, j, none⟩ = some (.int .i64 x) := fun j hj => by
        rw [cell_of_row wo w.heap.size j _ _ _ Hdg.out]
        simpa using Hdr.out j hj
      have Hcell := hid hcell
      clear hcell
      go_wp2
      go_region_law (refine step_copy_splice rfl (.tmp 41) (.tmp 44) 25 25 rfl 2 Try.underlying25 Hsz.out (some ⟨w.heap.size, k, none⟩) (some ⟨w.heap.size, 0, none⟩) (N - k) (N - k) k N (by simp [Act.eval, Act.put]; omega) (by simp [Act.eval, Act.put]) w.heap.size k cur2 2 Hdg.out (List.replicate m (.int .i64 x)) (by rw [List.length_replicate]; exact Hm.out) (fun _ => ⟨rfl, _, rfl, fun j v hv => by rw [List.getElem?_replicate] at hv; split at hv; (· rename_i hj; injection hv with hv; subst hv; have := Hcell.out j (by have := Hm.out; omega); rw [addr_zero]; exact this); (· cases hv)⟩) (by rw [List.length_replicate, Hdl.out]; exact hmk) (fun v hv => by simp at hv; obtain ⟨_, rfl⟩ := hv; rfl) w.heap.size w hB.out.drew (Nat.le_refl _) ?_; intro w6 hg6 hb6)
      have HK6 := hid (show RepI w6 w.heap.size N x (k + m) from ⟨_, hg6.out, (rep_splice Hdl.out hmk Hdr.out).1, (rep_splice Hdl.out hmk Hdr.out).2⟩)
      have HB6 := hid hb6
      clear hg6 hb6
      have e6 : IntKind.i64.wrap ((k : Int) + (m : Int)) = ((k + m : Nat) : Int) := by rw [← Int.natCast_add]; exact IntWalk.i64_in _ (by omega)
      go_wp2
      go_roundw
      case rel => exact ⟨k + m, by omega, by omega, by omega, HK6⟩
      case measure => simp [intOf]; omega
    · obtain rfl : k = N := by omega
      go_wp2
      go_ret
      exact ⟨_, rfl, Nat.le_refl _, repI_own hO.out hN, hB.out⟩

end Go.Proofs.Ythncgpbgffbpgaa
