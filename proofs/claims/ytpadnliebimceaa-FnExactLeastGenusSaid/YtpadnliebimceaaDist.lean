/- Distances in the program: distancesFrom. -/
import Derived.Test.YtpadnliebimceaaLawsD
import Derived.Laws.CopyOwn
import Derived.Laws.Bits64b
import Derived.Deep.RegionLaw
import Derived.Test.YtpadnliebimceaaDistM
import Derived.Test.YtpadnliebimceaaPrs
import Derived.Sort.QuietIn
import Derived.OrdersIn
import Derived.BigRegion
import Derived.BigQuiet

/- slices.Repeat of one number, at most twenty times. -/
namespace Go.Proofs.Ytpadnliebimceaa
open Go.RowKit

theorem mask20 (n : Nat) (h : n ≤ 20) : bits .and .u64 (n : Int) 4294967295 = (n : Int) := by
  have h1 := bits_and_u64_nat n 4294967295 (by omega) (by omega)
  have e : n &&& 4294967295 = n % 4294967296 := Nat.and_two_pow_sub_one_eq_mod n 32
  rw [e, Nat.mod_eq_of_lt (by omega)] at h1
  exact h1
theorem mask1 : bits .and .u64 1 4294967295 = 1 := mask20 1 (by omega)
theorem div20 (n : Nat) (h : n ≤ 20) : (n : Int) / 4294967296 = 0 := by omega
theorem wrap20 (n : Nat) (h : n ≤ 20) : IntKind.u64.wrap (n : Int) = (n : Int) := by rw [IntKind.wrap_u64]; omega

set_option maxRecDepth 100000 in
set_option maxHeartbeats 2000000 in
theorem iMul64_one (N : Nat) (hN : N ≤ 20) (w : World) : Calls Try.prog 178 #[.int .u64 1, .int .u64 N] w fun e w' => e = .returned (.tuple #[.int .u64 0, .int .u64 N]) ∧ w = w' := by
  have m0 := mask20 0 (by omega)
  have m1 := mask1
  have m2 := mask20 N hN
  have d1 := div20 N hN
  have u1 := wrap20 N hN
  go_enter Try.func178, Try.ntmps178
  go_wp2
  go_ret2
  exact ⟨rfl, rfl⟩

set_option maxRecDepth 100000 in
set_option maxHeartbeats 2000000 in
theorem iMul_one (N : Nat) (hN : N ≤ 20) (w : World) : Calls Try.prog 156 #[.int .u64 1, .int .u64 N] w fun e w' => e = .returned (.tuple #[.int .u64 0, .int .u64 N]) ∧ w = w' := by
  go_enter Try.func156, Try.ntmps156
  go_wp2_with (go_at_call 178; refine (iMul64_one N hN _).mono ?_; rintro e w' ⟨rfl, rfl⟩)
  go_ret2
  exact ⟨rfl, rfl⟩

theorem rep_splice {cur : List Value} {k m N : Nat} {v : Value} (hl : cur.length = N) (hk : k + m ≤ N) (h : ∀ i, i < k → cur[i]? = some v) :
    (splice cur k (List.replicate m v)).length = N ∧ ∀ i, i < k + m → (splice cur k (List.replicate m v))[i]? = some v := by
  refine ⟨by rw [length_splice _ _ _ (by rw [List.length_replicate]; omega), hl], fun i hi => ?_⟩
  unfold splice
  by_cases h1 : i < k
  · rw [List.getElem?_append_left (by rw [List.length_take]; omega), List.getElem?_take, if_pos h1]
    exact h i h1
  · rw [List.getElem?_append_right (by rw [List.length_take]; omega), List.length_take, List.getElem?_append_left (by rw [List.length_replicate]; omega), List.getElem?_replicate, if_pos (by omega)]

theorem addr_zero (g j : Nat) : (Addr.add ⟨g, 0, none⟩ j) = ⟨g, j, none⟩ := by cases j <;> simp [Addr.add]

/-- The block's first k cells hold the number x. -/
def RepI (w : World) (g N : Nat) (x : Int) (k : Nat) : Prop := ∃ cur : List Value, w.heap[g]? = some (.cells cur.toArray 2 (0, 0)) ∧ cur.length = N ∧ ∀ i, i < k → cur[i]? = some (.int .i64 x)
theorem repI_own {w : World} {g N : Nat} {x : Int} (h : RepI w g N x N) (hN : N ≤ 20) : OwnI w g N (List.replicate N x) := by
  obtain ⟨cur, h1, h2, h3⟩ := h
  refine ⟨_, h1, by simpa using h2, by simp, by unfold maxLen; omega, fun i hi => ?_⟩
  rw [List.length_replicate] at hi
  rw [eI_lt (by simpa using hi)]
  simpa using h3 i hi

set_option maxRecDepth 100000 in
set_option maxHeartbeats 4000000 in
theorem iRepeat_one (N b off c : Nat) (x : Int) (w : World) (hN1 : 1 ≤ N) (hN : N ≤ 20) (hr : w.cell? ⟨b, off, none⟩ = some (.int .i64 x)) :
    Calls Try.prog 149 #[.slice (some ⟨b, off, none⟩) 1 c, .int .i64 N] w fun e w' => ∃ g, e = .returned (.slice (some ⟨g, 0, none⟩) N N) ∧ w.heap.size ≤ g ∧ OwnI w' g N (List.replicate N x) ∧ Below w.heap.size w w' := by
  obtain ⟨j0, hj, hy0, hy1, hy2⟩ := info_parts infoInt
  have Hj := hid hj
  have Hr := hid hr
  clear hj
  go_enter Try.func149, Try.ntmps149
  have hsz : (Try.prog.info? 2).map (·.size) = some 1 := by rw [Hj.out]; simp [hy1]
  have Hsz := hid hsz
  clear hsz
  have e1 : decide ((N : Int) < 0) = false := by simp
  have hbw : b < w.heap.size := World.block_lt_of_cell? w _ hr
  go_wp2_with (first
    | (go_at_call 156; refine (iMul_one N hN _).mono ?_; rintro e w' ⟨rfl, rfl⟩)
    | (at_make; go_loud (refine wpList_make_full _ rfl _ _ 25 rfl w.heap.size 2 j0 (.int .i64 0) 1 Try.underlying25 Hj.out hy0 hy1 _ _ _ _ N rfl rfl rfl rfl (by rw [hy2]; omega) (by unfold maxLen; omega) (Nat.le_refl _) ?_; intro w4 hown hgrow; have Hb4 := hid ((Below.refl w.heap.size w).grown hgrow (Nat.le_refl _) (fun k e => by cases e)); have Ho4 := hid (OwnI.made hown); clear hown hgrow; obtain ⟨cur, cg, cs1, cs2, cm, cr⟩ := Ho4.out; have Hcg := hid (show w4.heap[w.heap.size]? = some (.cells cur.toList.toArray 2 (0, 0)) from cg); have hcl : cur.toList.length = N := cs1; have Hcl := hid hcl; have Hr4 := hid ((Hb4.out.cell (p := ⟨b, off, none⟩) hbw).trans Hr.out); clear cg cs1 cs2 cm cr hcl))
    | (have HcG := Hcl; refine wpList_copy_splice (o := ⟨some 33, _, _, _, _, _⟩) rfl (.tmp 31) (.tmp 32) 25 25 rfl 2 Try.underlying25 Hsz.out (some ⟨w.heap.size, 0, none⟩) (some ⟨b, off, none⟩) N N 1 c rfl rfl w.heap.size 0 cur.toList 2 Hcg.out (List.replicate 1 (.int .i64 x)) (by rw [List.length_replicate]; exact (Nat.min_eq_left hN1).symm) (fun _ => ⟨rfl, _, rfl, fun j v hv => by (rcases j with _ | j); (· simp at hv; subst hv; exact Hr4.out); (· simp at hv)⟩) (by rw [List.length_replicate, Hcl.out]; omega) (fun v hv => by simp at hv; subst hv; rfl) w.heap.size w Hb4.out (Nat.le_refl _) ?_; intro w5 hg5 hb5; have Hb5 := hid hb5; clear hb5))
  have HK := hid (show RepI w5 w.heap.size N x 1 from ⟨_, hg5.out, (rep_splice (m := 1) (k := 0) Hcl.out (by omega) (fun i hi => by omega)).1, fun i hi => (rep_splice (m := 1) (k := 0) Hcl.out (by omega) (fun i hi => by omega)).2 i (by omega)⟩)
  clear hg5
  go_loopw [8] (fun u wr => ∃ k : Nat, 1 ≤ k ∧ k ≤ N ∧ u = .int .i64 k ∧ Hid (RepI wr w.heap.size N x k) ∧ Hid (Below w.heap.size w wr)) (fun u _ => N - (intOf u).toNat)
  case atStart => exact ⟨1, by omega, hN1, rfl, HK, Hb5⟩
  case round =>
    obtain ⟨k, hk1, hk, rfl, hO, hB⟩ := hrel
    clear HK Hb5
    by_cases hlt : k < N
    · obtain ⟨cur2, dg, dl, dr⟩ := hO.out
      have Hdg := hid dg
      have Hdl := hid dl
      have Hdr := hid dr
      clear dg dl dr
      obtain ⟨m, hm⟩ : ∃ m, m = min k (N - k) := ⟨_, rfl⟩
      have hmk : k + m ≤ N := by omega
      have hm1 : 1 ≤ m := by omega
      have Hm := hid hm
      clear hm
      obtain ⟨wo, rfl⟩ : ∃ wo : World, wo = wr := ⟨_, rfl⟩
      have hcell : ∀ j, j < k → wo.cell? ⟨w.heap.size, j, none⟩ = some (.int .i64 x) := fun j hj => by
        rw [cell_of_row wo w.heap.size j _ _ _ Hdg.out]
        simpa using Hdr.out j hj
      have Hcell := hid hcell
      clear hcell
      go_wp2
      go_region_law (refine step_copy_splice rfl (.tmp 41) (.tmp 44) 25 25 rfl 2 Try.underlying25 Hsz.out (some ⟨w.heap.size, k, none⟩) (some ⟨w.heap.size, 0, none⟩) (N - k) (N - k) k N (by simp [Act.eval, Act.put]; omega) (by simp [Act.eval, Act.put]) w.heap.size k cur2 2 Hdg.out (List.replicate m (.int .i64 x)) (by rw [List.length_replicate]; exact Hm.out) (fun _ => ⟨rfl, _, rfl, fun j v hv => by rw [List.getElem?_replicate] at hv; split at hv; (· rename_i hj; injection hv with hv; subst hv; have := Hcell.out j (by have := Hm.out; omega); rw [addr_zero]; exact this); (· cases hv)⟩) (by rw [List.length_replicate, Hdl.out]; exact hmk) (fun v hv => by simp at hv; obtain ⟨_, rfl⟩ := hv; rfl) w.heap.size w hB.out.drew (Nat.le_refl _) ?_; intro w6 hg6 hb6)
      have HK6 := hid (show RepI w6 w.heap.size N x (k + m) from ⟨_, hg6.out, (rep_splice Hdl.out hmk Hdr.out).1, (rep_splice Hdl.out hmk Hdr.out).2⟩)
      have HB6 := hid hb6
      clear hg6 hb6
      have e6 : IntKind.i64.wrap ((k : Int) + (m : Int)) = ((k + m : Nat) : Int) := by rw [← Int.natCast_add]; exact IntWalk.i64_in _ (by omega)
      go_wp2
      go_roundw
      case rel => exact ⟨k + m, by omega, by omega, by omega, HK6⟩
      case measure => simp [intOf]; omega
    · obtain rfl : k = N := by omega
      go_wp2
      go_ret
      exact ⟨_, rfl, Nat.le_refl _, repI_own hO.out hN, hB.out⟩

end Go.Proofs.Ytpadnliebimceaa

/- Regions that draw their order inside a round of a range over a function: what holds of them outside of rounds holds in one, if they hold no defer. -/
namespace Go.Proofs.Ytpadnliebimceaa
open Go.RowKit Go.Shelf

section
variable {F : Fence} {n l : Nat} {P : Program} {ops : Array Oper} {Q : Exit → Act → World → Prop} {md : Region.Mode}
theorem region_round_quiet {id : Nat} {a : Act} {w : World} {os : List Oper} (hF : F.round = none) (hm : P.follows .mixedOrders = true) (hnd : os.toArray.toList.all plainB = true) (hB : Region.lexB .any os.toArray = true)
    (h : wpQuietIn F n P os.toArray (fun w' => ∃ n, w' = w.drewN n) (fun a' => ∀ w', (∃ n, w' = w.drewN n) → Q .normal a' w') os a) : (Code.region id os.toArray true).wpIn (F.inRound l) n P Q a w := by
  simp only [Region.lexB, Bool.and_eq_true] at hB
  refine region_round hF hm hnd (wpAnyIn_of_quiet (C := fun w' => ∃ n, w' = w.drewN n) (Q := fun a' => ∀ w', (∃ n, w' = w.drewN n) → Q .normal a' w') hF (fun _ w' hw' h => h w' hw') _ _ _ _ ⟨1, rfl⟩ ?_)
  have := wpAnyQIn_lex (F := F) (n := n) (C := fun w' => ∃ n, w' = w.drewN n) (md := .any) hB.1 os.toArray.toList 0 (Array.replicate os.toArray.size false) a (by simp) (by simpa using hB.2) (by simpa using h)
  simpa using this
end

theorem cut_later {X G : Prop} (f : X → G) (x : X) : G := f x

end Go.Proofs.Ytpadnliebimceaa

namespace Go.Proofs.Ytpadnliebimceaa
open Go.RowKit Go.Shelf

attribute [local go_sem] Oper.semAt_some

theorem eI_drop (xs : List Int) (i j : Nat) : eI (xs.drop i) j = eI xs (i + j) := by
  unfold eI
  rw [List.getD_eq_getElem?_getD, List.getD_eq_getElem?_getD, List.getElem?_drop]

set_option maxRecDepth 100000 in
set_option maxHeartbeats 16000000 in
theorem iDist_any (N : Nat) (a x y : Int) (b off n c : Nat) (es : List (Int × Int)) (w : World) (hn : es.length = n) (hn30 : n ≤ 30) (hb : b < w.heap.size) (hr : ReadsE w b off es) (he : EndsIn N es) (hN : 1 ≤ N ∧ N ≤ 20) (ha : 0 ≤ a ∧ a < N) (keep : Nat → Bool) (hk : ∀ e, e < es.length → keep e = !(decide (eA es e = x) && decide (eB es e = y))) :
    Calls Try.prog 139 #[.agg #[.int .i64 N, .slice (some ⟨b, off, none⟩) n c], .int .i64 a, .agg #[.int .i64 x, .int .i64 y]] w fun e w' => ∃ g, e = .returned (.slice (some ⟨g, 0, none⟩) N N) ∧ w.heap.size ≤ g ∧ OwnI w' g N (farF N es keep a) ∧ Below w.heap.size w w' := by
  obtain ⟨hN1, hN2⟩ := hN
  obtain ⟨E, hE⟩ : ∃ E : Nat, a = E := ⟨_, (Int.toNat_of_nonneg ha.1).symm⟩
  subst hE
  have hEN : E < N := by omega
  have hEN' : (E : Int) < (N : Int) := by omega
  have Hn := hid hn
  have Hr := hid hr
  have EI := hid he
  have HA := hid ha
  have HK := hid hk
  have Hb := hid hb
  obtain ⟨i0, hi, hz0, hz1, hz2⟩ := info_parts infoInt
  have Hi := hid hi
  clear hn hr he ha hk hi
  refine (callsIn_wide (n := 6)).1 ?_
  refine callsIn_of_wp_marks Try.func139 rfl trivial ?_ rfl
  simp only [Try.ntmps139, List.size_toArray, List.length_cons, List.length_nil, Nat.reduceAdd, Nat.reduceSub, Array.replicate_succ, Array.replicate_zero, List.push_toArray, List.append_toArray, List.nil_append, List.cons_append]
  have hcell : (((w.alloc (.cells #[.int .i64 N, .slice (some ⟨b, off, none⟩) n c] 24)).alloc (.cells #[.int .i64 x, .int .i64 y] 85)).alloc (.cells #[.int .i64 (-1)] 2)).cell? ⟨w.heap.size + 1 + 1, 0, none⟩ = some (.int .i64 (-1)) := by
    have h := World.alloc_heap_new ((w.alloc (.cells #[.int .i64 N, .slice (some ⟨b, off, none⟩) n c] 24)).alloc (.cells #[.int .i64 x, .int .i64 y] 85)) (.cells #[.int .i64 (-1)] 2)
    rw [World.size_alloc, World.size_alloc] at h
    exact (cell_of_row _ (w.heap.size + 1 + 1) 0 _ _ _ h).trans rfl
  have HX0 := hid (((Box.new w N (some ⟨b, off, none⟩) n c 24).on (on_alloc _ (.cells #[.int .i64 x, .int .i64 y] 85))).on (on_alloc _ (.cells #[.int .i64 (-1)] 2)))
  have HB0 := hid (bfrom (bfrom (on_alloc w (.cells #[.int .i64 N, .slice (some ⟨b, off, none⟩) n c] 24)) (on_alloc _ (.cells #[.int .i64 x, .int .i64 y] 85))) (on_alloc _ (.cells #[.int .i64 (-1)] 2)))
  have hY0 : (((w.alloc (.cells #[.int .i64 N, .slice (some ⟨b, off, none⟩) n c] 24)).alloc (.cells #[.int .i64 x, .int .i64 y] 85)).alloc (.cells #[.int .i64 (-1)] 2)).heap[w.heap.size + 1]? = some (.cells #[.int .i64 x, .int .i64 y] 85 (0, 0)) := by
    have h := World.alloc_heap_new (w.alloc (.cells #[.int .i64 N, .slice (some ⟨b, off, none⟩) n c] 24)) (.cells #[.int .i64 x, .int .i64 y] 85)
    rw [World.size_alloc] at h
    exact (Below.heap_alloc _ _ _ (by simp)).trans h
  obtain ⟨w1, hw1⟩ : ∃ w1, w1 = (((w.alloc (.cells #[.int .i64 N, .slice (some ⟨b, off, none⟩) n c] 24)).alloc (.cells #[.int .i64 x, .int .i64 y] 85)).alloc (.cells #[.int .i64 (-1)] 2)) := ⟨_, rfl⟩
  have hz1s : w1.heap.size = w.heap.size + 1 + 1 + 1 := by rw [hw1]; simp
  rw [← hw1] at hcell HX0 HB0 hY0
  have HY0 := hid hY0
  have HZ1 := hid hz1s
  have HC0 := hid hcell
  clear hY0 hz1s hcell
  gi_wp2_with (refine ⟨trivial, ?_⟩; gi_at_call 149; rw [← hw1]; clear hw1; refine (callsIn_wide.2 (iRepeat_one N (w.heap.size + 1 + 1) 0 1 (-1) w1 hN1 hN2 HC0.out)).mono ?_; rintro e w2 ⟨gF, rfl, hgF, hO2, hb2⟩; have HO2 := hid hO2; have HB2 := hid hb2; have HF2 := hid hgF; have hcF : w2.cell? ⟨gF, E, none⟩ = some (.int .i64 (-1)) := (by have h := hO2.reads E (by simpa using hEN); rw [Nat.zero_add, eI_rep hEN] at h; exact h); have hfF := hO2.free E; have hlF := hO2.lt; clear hO2 hb2 hgF)
  have hQ3 : QM w1 ((((w2.setCell ⟨gF, E, none⟩ (.int .i64 0)).alloc (.cells #[.slice (some ⟨gF, 0, none⟩) N N] 25)).alloc (.cells #[.int .i64 E] 2)).alloc (.cells #[.slice (some ⟨w2.heap.size + 1, 0, none⟩) 1 1] 25)) w2.heap.size gF (w2.heap.size + 1 + 1) N 0 [] (farS N es keep E 0) (w2.heap.size + 1) 0 1 1 := by
    have hs : (w2.setCell ⟨gF, E, none⟩ (.int .i64 0)).heap.size = w2.heap.size := by simp [World.setCell]
    have hO := OwnI.set HO2.out (k := E) (by simpa using hEN) 0
    have hBl := HB2.out.setCell (p := ⟨gF, E, none⟩) HF2.out (.int .i64 0)
    obtain ⟨wa, hwa⟩ : ∃ wa, wa = w2.setCell ⟨gF, E, none⟩ (.int .i64 0) := ⟨_, rfl⟩
    rw [← hwa] at hs hO hBl ⊢
    clear hwa
    rw [← hs] at hlF ⊢
    have hz : w1.heap.size ≤ wa.heap.size := hBl.size
    have b1 := ((Boxed.new wa 25 (.slice (some ⟨gF, 0, none⟩) N N)).alloc (.cells #[.int .i64 E] 2)).alloc (.cells #[.slice (some ⟨wa.heap.size + 1, 0, none⟩) 1 1] 25)
    have b2 := Boxed.new ((wa.alloc (.cells #[.slice (some ⟨gF, 0, none⟩) N N] 25)).alloc (.cells #[.int .i64 E] 2)) 25 (.slice (some ⟨wa.heap.size + 1, 0, none⟩) 1 1)
    rw [World.size_alloc, World.size_alloc] at b2
    refine ⟨b1, b2, ((hO.alloc _).alloc _).alloc _, ?_, rfl, by omega, by omega, HF2.out, by omega, by omega, fun D hD => by simp at hD, ((hBl.alloc hz _).alloc (by rw [World.size_alloc]; omega) _).alloc (by rw [World.size_alloc, World.size_alloc]; omega) _⟩
    exact ((own_one (wa.alloc (.cells #[.slice (some ⟨gF, 0, none⟩) N N] 25)) (wa.heap.size + 1) E (by rw [World.size_alloc])).alloc _).queue
  have HQ3 := hid hQ3
  clear hQ3 hcF hfF
  refine wpIn_loop (fun a' W => ∃ (bQ : Nat) (Ds : List Nat) (gq oq cq lq : Nat) (u9 u21 u22 u23 u24 u25 u26 u27 u28 u29 u30 u31 u60 : Value), a' = { tmps := #[.agg #[.int .i64 N, .slice (some ⟨b, off, none⟩) n c], .int .i64 E, .agg #[.int .i64 x, .int .i64 y], .pointer (some ⟨w.heap.size, 0, none⟩), undef, .pointer (some ⟨w.heap.size + 1, 0, none⟩), .slice none 0 0, .pointer (some ⟨w2.heap.size, 0, none⟩), .pointer (some ⟨bQ, 0, none⟩), u9, undef, undef, .slice (some ⟨w.heap.size + 1 + 1, 0, none⟩) 1 1, .pointer (some ⟨w.heap.size, 0, none⟩), .int .i64 N, .slice (some ⟨gF, 0, none⟩) N N, .slice (some ⟨gF, 0, none⟩) N N, .int .i64 E, .pointer (some ⟨gF, E, none⟩), .int .i64 E, .slice (some ⟨w2.heap.size + 1, 0, none⟩) 1 1, u21, u22, u23, u24, u25, u26, u27, u28, u29, u30, u31, undef, undef, undef, undef, undef, undef, undef, undef, undef, undef, undef, undef, undef, undef, undef, undef, undef, undef, undef, undef, undef, undef, undef, undef, undef, undef, undef, undef, u60, undef], defers := colls Ds } ∧ Hid (QM w1 W w2.heap.size gF bQ N Ds.length Ds (farS N es keep E Ds.length) gq oq cq lq) ∧ Hid (Ds.Nodup ∧ Ds.length ≤ (farS N es keep E Ds.length).2.length)) (fun a' _ => N + 1 - a'.defers.length) ?start ?round
  case start => exact ⟨_, [], _, _, _, _, _, _, _, _, _, _, _, _, _, _, _, _, _, rfl, HQ3, hid ⟨by simp, by simp⟩⟩
  case round =>
    rintro a' W ⟨bQ, Ds, gq, oq, cq, lq, u9, u21, u22, u23, u24, u25, u26, u27, u28, u29, u30, u31, u60, rfl, hM, hD⟩
    clear HQ3
    have FI := hid (farS_inv (keep := keep) EI.out HA.out Ds.length)
    have hqb := hM.out.queue.cell
    have hqz := hM.out.queue.lt
    have hfb := hM.out.far.cell
    have hfz := hM.out.far.lt
    have hWz := hM.out.size
    rcases lq with _ | l
    · gi_wp2
      refine leaves_colls (fun w' => results_tmp rfl _ _ _) Ds W hD.out.1 (fun D h => (hM.out.col D h).1) (fun w' h1 h2 h3 h4 h5 => ?_)
      have hno : ∀ (k : Nat) (cur : Array Value) (t : TypeId), W.heap[k]? = some (.cells cur t (0, 0)) → w'.heap[k]? = W.heap[k]? := fun k cur t hk => h5 k (fun hin => cells_ne hk ⟨_, (hM.out.col k hin).1, rfl⟩ rfl)
      have hend := farF_end (keep := keep) EI.out HA.out (i := Ds.length) (by have := hM.out.len; rw [List.length_drop] at this; omega)
      refine ⟨gF, rfl, by have := HZ1.out; have := HF2.out; omega, ?_, bfrom HB0.out (hM.out.below.trans ⟨h1, h2, h3, by rw [h4]; exact Nat.le_refl _, fun k hk => h5 k (fun hin => by have := (hM.out.col k hin).2; omega)⟩)⟩
      rw [← hend]
      obtain ⟨cur, hcur, _⟩ := hM.out.ownF
      exact hM.out.ownF.keep (hno _ _ _ hcur)
    · obtain ⟨i, hi⟩ : ∃ i, i = Ds.length := ⟨_, rfl⟩
      rw [← hi] at hM hD FI
      have HI := hid hi
      have hil : i < (farS N es keep E i).2.length := by have := hM.out.len; rw [List.length_drop] at this; omega
      have hmem := FI.out.mem _ (eI_mem hil)
      obtain ⟨V, hV⟩ : ∃ V : Nat, eI (farS N es keep E i).2 i = V := ⟨_, (Int.toNat_of_nonneg hmem.1).symm⟩
      rw [hV] at hmem
      have hVN : V < N := by omega
      have hVN' : (V : Int) < (N : Int) := by omega
      have HV := hid hV
      have HV1 := hid (show eI (farS N es keep E i).1 V ≠ -1 by have := hmem.2.2; simpa using this)
      have hcv := hM.out.ownQ.cell (j := 0) (by rw [hM.out.len]; omega)
      rw [Nat.add_zero, eI_drop, Nat.add_zero, hV] at hcv
      have hgqz := hM.out.ownQ.lt
      have HXW := hid (HX0.out.on hM.out.below)
      have hxw := HXW.out.1
      have hyw := HXW.out.2
      have hzw := HXW.out.lt
      have HDs := hid (show ∀ D, D ∈ Ds → D < W.heap.size from fun D h => (Array.getElem?_eq_some_iff.1 (hM.out.col D h).1).1)
      have HIL := hid hil
      clear hi hV hmem hil
      have hbG : (((W.alloc (.cells #[.int .i64 V] 2)).alloc (.cells #[.int .i64 N, .slice (some ⟨b, off, none⟩) n c] 24)).alloc (.cells #[.int .i64 V] 2)).cell? ⟨W.heap.size + 1, 1, none⟩ = some (.slice (some ⟨b, off, none⟩) n c) := by
        have h := ((Box.new (W.alloc (.cells #[.int .i64 V] 2)) N (some ⟨b, off, none⟩) n c 24).on (on_alloc _ (.cells #[.int .i64 V] 2))).2
        simpa only [World.size_alloc] using h
      have hbV : (((W.alloc (.cells #[.int .i64 V] 2)).alloc (.cells #[.int .i64 N, .slice (some ⟨b, off, none⟩) n c] 24)).alloc (.cells #[.int .i64 V] 2)).cell? ⟨W.heap.size + 1 + 1, 0, none⟩ = some (.int .i64 V) := by
        have h := (Boxed.new ((W.alloc (.cells #[.int .i64 V] 2)).alloc (.cells #[.int .i64 N, .slice (some ⟨b, off, none⟩) n c] 24)) 2 (.int .i64 V)).cell
        simpa only [World.size_alloc] using h
      have HbG := hid hbG
      have HbV := hid hbV
      have HBW := hid (bfrom HB0.out hM.out.below)
      have HMr := hid (show QM w1 (((W.alloc (.cells #[.int .i64 V] 2)).alloc (.cells #[.int .i64 N, .slice (some ⟨b, off, none⟩) n c] 24)).alloc (.cells #[.int .i64 V] 2)) w2.heap.size gF bQ N i Ds (farS N es keep E i) gq oq cq (l + 1) from ((QM.alloc hM.out _).alloc _).alloc _)
      have HBr := hid (show Below w.heap.size w (((W.alloc (.cells #[.int .i64 V] 2)).alloc (.cells #[.int .i64 N, .slice (some ⟨b, off, none⟩) n c] 24)).alloc (.cells #[.int .i64 V] 2)) from bfrom (bfrom (bfrom HBW.out (on_alloc _ _)) (on_alloc _ _)) (on_alloc _ _))
      have HvB := hid (((Boxed.new W 2 (.int .i64 V)).alloc (.cells #[.int .i64 N, .slice (some ⟨b, off, none⟩) n c] 24)).alloc (.cells #[.int .i64 V] 2))
      clear hbG hbV
      gi_wp2_with (refine ⟨trivial, ?_⟩; gi_at_call 116; refine (callsIn_wide.2 (iAround_any _ _ _ _ _ _)).mono ?_; rintro e w' ⟨rfl, rfl⟩)
      have hw1b : b < w1.heap.size := by have := HZ1.out; have := Hb.out; omega
      refine wpIn_rangeFunc_ownG (n := 6) rfl (by omega) (gf := 141) (lb := #[.pointer (some ⟨W.heap.size + 1, 0, none⟩), .pointer (some ⟨W.heap.size + 1 + 1, 0, none⟩)]) rfl trivial (enters_of Try.func141 (by kernel_rfl) rfl)
        (aroundS_stops 5 (by omega) (W.heap.size + 1) (W.heap.size + 1 + 1) w1.heap.size b off n c V es Hn.out hn30 hw1b _ (by simp; omega) HbG.out HbV.out (by simp) (by simp) (Hr.out.on HBr.out)) kpB_t (kpB_b (by simp; omega) (by simp)) (Below.refl _ _) (fun _ => rfl)
        (fun (pre : List (ArS es V)) W' => ∃ gq' oq' cq' lq', QM w1 W' w2.heap.size gF bQ N i Ds (farL es keep V (farS N es keep E i) (pre.map fun z => z.1.1)) gq' oq' cq' lq' ∧ Boxed W' W.heap.size 2 (.int .i64 V) ∧ (gq' < W.heap.size ∨ W.heap.size + 1 + 1 + 1 ≤ gq') ∧ W.heap.size + 1 + 1 + 1 ≤ W'.heap.size)
        (fun _ _ _ => False)
        ?own
        (fun _ _ _ _ _ hs _ _ => hs)
        ⟨gq, oq, cq, l + 1, HMr.out, HvB.out, .inl hgqz, by simp⟩
        (fun z => { tmps := #[.agg #[.int .i64 N, .slice (some ⟨b, off, none⟩) n c], .int .i64 E, .agg #[.int .i64 x, .int .i64 y], .pointer (some ⟨w.heap.size, 0, none⟩), undef, .pointer (some ⟨w.heap.size + 1, 0, none⟩), .slice none 0 0, .pointer (some ⟨w2.heap.size, 0, none⟩), .pointer (some ⟨bQ, 0, none⟩), .pointer (some ⟨W.heap.size, 0, none⟩), .int .i64 (z.1.1 : Int), .int .i64 z.1.2, .slice (some ⟨w.heap.size + 1 + 1, 0, none⟩) 1 1, .pointer (some ⟨w.heap.size, 0, none⟩), .int .i64 N, .slice (some ⟨gF, 0, none⟩) N N, .slice (some ⟨gF, 0, none⟩) N N, .int .i64 E, .pointer (some ⟨gF, E, none⟩), .int .i64 E, .slice (some ⟨w2.heap.size + 1, 0, none⟩) 1 1, .slice (some ⟨gq, oq, none⟩) (l + 1) cq, .int .i64 ((l : Int) + 1), .bool true, u24, u25, .slice (some ⟨gq, oq, none⟩) (l + 1) cq, .pointer (some ⟨gq, oq, none⟩), .int .i64 V, .agg #[.int .i64 N, .slice (some ⟨b, off, none⟩) n c], .int .i64 V, .func (.func 141) #[] #[.pointer (some ⟨W.heap.size + 1, 0, none⟩), .pointer (some ⟨W.heap.size + 1 + 1, 0, none⟩)], .int .i64 (z.1.1 : Int), .int .i64 z.1.2, undef, undef, undef, undef, undef, undef, undef, undef, undef, undef, undef, undef, undef, undef, undef, undef, undef, undef, undef, undef, undef, undef, undef, undef, undef, undef, u60, undef], defers := [] }) ?assign ?body ?done ?stop
      case own =>
        rintro pre A B row ⟨gq', oq', cq', lq', h1, h2, h3, h4⟩ hg hrow
        refine ⟨gq', oq', cq', lq', h1.grown hg (fun r e => ?_), h2.kept hg (fun e => ?_), h3, Nat.le_trans h4 hg.size⟩
        · obtain ⟨k1, k2⟩ := hrow r e
          simp only [World.size_alloc] at k1
          exact ⟨by omega, k2, fun hin => by have := HDs.out r hin; omega⟩
        · exact cells_ne h2 (hrow _ e.symm).2 rfl
      case assign =>
        intro l' z W' K hK
        gi_wp2
        exact hK
      case body =>
        rintro l' pre z W' ⟨gq', oq', cq', lq', h1, h2, h3, h4⟩ hlt
        obtain ⟨hz1e, hz2e, hz3e⟩ := z.2
        obtain ⟨e, he⟩ : ∃ e, z.1.1 = e := ⟨_, rfl⟩
        rw [he] at hz1e hz2e hz3e ⊢
        have hin := oth_in EI.out hz1e hz2e
        obtain ⟨Z, hZ⟩ : ∃ Z : Nat, othE es V e = Z := ⟨_, (Int.toNat_of_nonneg hin.1).symm⟩
        rw [hz3e, hZ]
        have hZN : Z < N := by omega
        have hZN' : (Z : Int) < (N : Int) := by omega
        have HZ := hid hZ
        have hen : e < n := by have := Hn.out; omega
        have hen' : (e : Int) < (n : Int) := by omega
        obtain ⟨S, hS⟩ : ∃ S, S = farL es keep V (farS N es keep E i) (pre.map fun z => z.1.1) := ⟨_, rfl⟩
        have hinv := farL_inv (keep := keep) (v := V) EI.out (by omega) (pre.map fun z => z.1.1) (farS N es keep E i) FI.out (by simpa using HV1.out) (fun e' he' => by
          obtain ⟨z, _, rfl⟩ := List.mem_map.1 he'
          exact ⟨z.2.1, z.2.2.1⟩)
        rw [← hS] at h1 hinv
        have HS2 := hid (show farL es keep V (farS N es keep E i) ((pre ++ [z]).map fun z => z.1.1) = farE es keep V S e by rw [List.map_append, List.map_singleton, he, farL_snoc, hS])
        have HFS := hid hinv.1
        have hiS : i ≤ S.2.length := by have := hinv.2.1.2.1; have := HIL.out; omega
        have hlqN : lq' ≤ N := by have := hinv.1.le; have := h1.len; rw [List.length_drop] at this; omega
        have HX' := hid (HX0.out.on h1.below)
        have hxi := HX'.out.1
        have hyi := HX'.out.2
        have hzi := HX'.out.lt
        have hwz : w.heap.size + 1 < w1.heap.size := by have := HZ1.out; omega
        have hY' : W'.heap[w.heap.size + 1]? = some (.cells #[.int .i64 x, .int .i64 y] 85 (0, 0)) := (h1.below.block _ hwz).trans HY0.out
        have hyx := (cell_of_row W' (w.heap.size + 1) 0 _ _ _ hY').trans (show _ = some (Value.int .i64 x) from rfl)
        have hyy := (cell_of_row W' (w.heap.size + 1) 1 _ _ _ hY').trans (show _ = some (Value.int .i64 y) from rfl)
        have HBx := hid (bfrom HB0.out h1.below)
        have hc1 := (Hr.out.on HBx.out e (by have := Hn.out; omega)).1
        have hc2 := (Hr.out.on HBx.out e (by have := Hn.out; omega)).2
        have hbi : b < W'.heap.size := by have := HBx.out.size; omega
        have hqb' := h1.queue.cell
        have hqf' := h1.queue.frozen
        have hqz' := h1.queue.lt
        have hfb' := h1.far.cell
        have hfz' := h1.far.lt
        have hvb' := h2.cell
        have hvz' := h2.lt
        have hgF' := h1.ownF.lt
        have hcy := h1.ownF.reads Z (by rw [hinv.1.len]; exact hZN)
        have hcd := h1.ownF.reads V (by rw [hinv.1.len]; exact hVN)
        have hfy := h1.ownF.free Z
        rw [Nat.zero_add] at hcy hcd
        obtain ⟨yz, hyz⟩ : ∃ yz, eI S.1 Z = yz := ⟨_, rfl⟩
        obtain ⟨d, hd⟩ : ∃ d, eI S.1 V = d := ⟨_, rfl⟩
        have hdb := hinv.1.bnd V hVN
        rw [hyz] at hcy
        rw [hd] at hcd hdb
        obtain ⟨d1, d2⟩ := hdb
        have d3 : d ≤ 20 := by have := hinv.1.le; omega
        have e4 : IntKind.i64.wrap (d + 1) = d + 1 := IntWalk.i64_in _ (by omega)
        have HYZ := hid hyz
        have HDd := hid hd
        have H1 := hid h1
        have H2 := hid h2
        have HKe := hid (HK.out e hz1e)
        have HES := hid hiS
        obtain ⟨X, hX⟩ : ∃ X, eA es e = X := ⟨_, rfl⟩
        obtain ⟨Y, hY⟩ : ∃ Y, eB es e = Y := ⟨_, rfl⟩
        rw [hX] at hc1
        rw [hY] at hc2
        obtain ⟨kb, hkb⟩ : ∃ kb, keep e = kb := ⟨_, rfl⟩
        have hneq : ∀ w', (binOp .neq 85 (.agg #[.int .i64 X, .int .i64 Y]) (.agg #[.int .i64 x, .int .i64 y])).run Try.prog w' = .ok (.bool kb) w' := fun w' => by
          rw [edge_neq, ← hkb, HK.out e hz1e, hX, hY]
          rfl
        have HKB := hid hkb
        clear hX hY hkb he hz3e hin hZ hS hinv h1 h2 hY' hyz hd hqb hcv hxw hyw hfb hlt hiS hz1e hz2e
        by_cases hgo : yz = -1 ∧ kb = true
        · obtain ⟨rfl, rfl⟩ := hgo
          gi_wp2
          refine region_round_quiet rfl (by kernel_rfl) (by kernel_rfl) (by kernel_rfl) ?_
          repeat (gi_big_quiet_step (fail))
          refine wpQuietIn_nil ?_
          intro _ hw'
          obtain ⟨nq, rfl⟩ := hw'
          gi_wp2
          apply cut_later
          · intro hX
            refine region_round rfl (by kernel_rfl) (by kernel_rfl) ?_
            refine wpAnyIn_take (i := 1) (v := .int .i64 Z) rfl rfl (by kernel_rfl) (by kernel_rfl) (by kernel_rfl) (fun _ _ _ h => h) ⟨Or.inl ⟨by rfl, by (intro w'; go_simp)⟩, fun _ => rfl⟩ ?_
            refine wpAnyIn_ready (rs := [0, 2, 3]) (by kernel_rfl) (by simp) ?_
            refine AllReadyIn.cons rfl (fun K hK => ?_) ?_
            · go_simp
              refine hK _ _ ?_
              clear hK K
              refine wpAnyIn_ready (rs := [2, 3]) (by kernel_rfl) (by simp) ?_
              refine AllReadyIn.cons rfl (fun K hK => ?_) ?_
              · go_simp
                refine hK _ _ ?_
                clear hK K
                refine wpAnyIn_ready (rs := [3]) (by kernel_rfl) (by simp) ?_
                refine AllReadyIn.cons rfl (fun K hK => ?_) ?_
                · go_simp
                  refine hK _ _ ?_
                  clear hK K
                  refine wpAnyIn_take (i := 4) (v := .pointer (some ⟨gF, V, none⟩)) rfl rfl (by kernel_rfl) (by kernel_rfl) (by kernel_rfl) (fun _ _ _ h => h) ⟨Or.inl ⟨by rfl, by (intro w'; go_simp)⟩, fun _ => rfl⟩ ?_
                  refine wpAnyIn_ready (rs := [5]) (by kernel_rfl) (by simp) ?_
                  refine AllReadyIn.cons rfl (fun K hK => ?_) ?_
                  · go_simp
                    refine hK _ _ ?_
                    clear hK K
                    refine wpAnyIn_take (i := 6) (v := .int .i64 (d + 1)) rfl rfl (by kernel_rfl) (by kernel_rfl) (by kernel_rfl) (fun _ _ _ h => h) ⟨Or.inl ⟨by rfl, by (intro w'; go_simp)⟩, fun _ => rfl⟩ ?_
                    refine wpAnyIn_take (i := 7) (v := .pointer (some ⟨gF, Z, none⟩)) rfl rfl (by kernel_rfl) (by kernel_rfl) (by kernel_rfl) (fun _ _ _ h => h) ⟨Or.inl ⟨by rfl, by (intro w'; go_simp)⟩, fun _ => rfl⟩ ?_
                    refine wpAnyIn_ready (rs := [8]) (by kernel_rfl) (by simp) ?_
                    refine AllReadyIn.cons rfl (fun K hK => ?_) ?_
                    · go_simp
                      refine hK _ _ ?_
                      clear hK K
                      refine wpAnyIn_done (by kernel_rfl) ?_ _
                      exact hX
                    exact AllReadyIn.nil
                  exact AllReadyIn.nil
                exact AllReadyIn.nil
              refine AllReadyIn.cons rfl (fun K hK => ?_) ?_
              · go_simp
                refine hK _ _ ?_
                clear hK K
                refine wpAnyIn_ready (rs := [2]) (by kernel_rfl) (by simp) ?_
                refine AllReadyIn.cons rfl (fun K hK => ?_) ?_
                · go_simp
                  refine hK _ _ ?_
                  clear hK K
                  refine wpAnyIn_take (i := 4) (v := .pointer (some ⟨gF, V, none⟩)) rfl rfl (by kernel_rfl) (by kernel_rfl) (by kernel_rfl) (fun _ _ _ h => h) ⟨Or.inl ⟨by rfl, by (intro w'; go_simp)⟩, fun _ => rfl⟩ ?_
                  refine wpAnyIn_ready (rs := [5]) (by kernel_rfl) (by simp) ?_
                  refine AllReadyIn.cons rfl (fun K hK => ?_) ?_
                  · go_simp
                    refine hK _ _ ?_
                    clear hK K
                    refine wpAnyIn_take (i := 6) (v := .int .i64 (d + 1)) rfl rfl (by kernel_rfl) (by kernel_rfl) (by kernel_rfl) (fun _ _ _ h => h) ⟨Or.inl ⟨by rfl, by (intro w'; go_simp)⟩, fun _ => rfl⟩ ?_
                    refine wpAnyIn_take (i := 7) (v := .pointer (some ⟨gF, Z, none⟩)) rfl rfl (by kernel_rfl) (by kernel_rfl) (by kernel_rfl) (fun _ _ _ h => h) ⟨Or.inl ⟨by rfl, by (intro w'; go_simp)⟩, fun _ => rfl⟩ ?_
                    refine wpAnyIn_ready (rs := [8]) (by kernel_rfl) (by simp) ?_
                    refine AllReadyIn.cons rfl (fun K hK => ?_) ?_
                    · go_simp
                      refine hK _ _ ?_
                      clear hK K
                      refine wpAnyIn_done (by kernel_rfl) ?_ _
                      exact hX
                    exact AllReadyIn.nil
                  exact AllReadyIn.nil
                exact AllReadyIn.nil
              exact AllReadyIn.nil
            refine AllReadyIn.cons rfl (fun K hK => ?_) ?_
            · go_simp
              refine hK _ _ ?_
              clear hK K
              refine wpAnyIn_ready (rs := [0, 3]) (by kernel_rfl) (by simp) ?_
              refine AllReadyIn.cons rfl (fun K hK => ?_) ?_
              · go_simp
                refine hK _ _ ?_
                clear hK K
                refine wpAnyIn_ready (rs := [3]) (by kernel_rfl) (by simp) ?_
                refine AllReadyIn.cons rfl (fun K hK => ?_) ?_
                · go_simp
                  refine hK _ _ ?_
                  clear hK K
                  refine wpAnyIn_take (i := 4) (v := .pointer (some ⟨gF, V, none⟩)) rfl rfl (by kernel_rfl) (by kernel_rfl) (by kernel_rfl) (fun _ _ _ h => h) ⟨Or.inl ⟨by rfl, by (intro w'; go_simp)⟩, fun _ => rfl⟩ ?_
                  refine wpAnyIn_ready (rs := [5]) (by kernel_rfl) (by simp) ?_
                  refine AllReadyIn.cons rfl (fun K hK => ?_) ?_
                  · go_simp
                    refine hK _ _ ?_
                    clear hK K
                    refine wpAnyIn_take (i := 6) (v := .int .i64 (d + 1)) rfl rfl (by kernel_rfl) (by kernel_rfl) (by kernel_rfl) (fun _ _ _ h => h) ⟨Or.inl ⟨by rfl, by (intro w'; go_simp)⟩, fun _ => rfl⟩ ?_
                    refine wpAnyIn_take (i := 7) (v := .pointer (some ⟨gF, Z, none⟩)) rfl rfl (by kernel_rfl) (by kernel_rfl) (by kernel_rfl) (fun _ _ _ h => h) ⟨Or.inl ⟨by rfl, by (intro w'; go_simp)⟩, fun _ => rfl⟩ ?_
                    refine wpAnyIn_ready (rs := [8]) (by kernel_rfl) (by simp) ?_
                    refine AllReadyIn.cons rfl (fun K hK => ?_) ?_
                    · go_simp
                      refine hK _ _ ?_
                      clear hK K
                      refine wpAnyIn_done (by kernel_rfl) ?_ _
                      exact hX
                    exact AllReadyIn.nil
                  exact AllReadyIn.nil
                exact AllReadyIn.nil
              refine AllReadyIn.cons rfl (fun K hK => ?_) ?_
              · go_simp
                refine hK _ _ ?_
                clear hK K
                refine wpAnyIn_take (i := 4) (v := .pointer (some ⟨gF, V, none⟩)) rfl rfl (by kernel_rfl) (by kernel_rfl) (by kernel_rfl) (fun _ _ _ h => h) ⟨Or.inl ⟨by rfl, by (intro w'; go_simp)⟩, fun _ => rfl⟩ ?_
                refine wpAnyIn_ready (rs := [0, 5]) (by kernel_rfl) (by simp) ?_
                refine AllReadyIn.cons rfl (fun K hK => ?_) ?_
                · go_simp
                  refine hK _ _ ?_
                  clear hK K
                  refine wpAnyIn_ready (rs := [5]) (by kernel_rfl) (by simp) ?_
                  refine AllReadyIn.cons rfl (fun K hK => ?_) ?_
                  · go_simp
                    refine hK _ _ ?_
                    clear hK K
                    refine wpAnyIn_take (i := 6) (v := .int .i64 (d + 1)) rfl rfl (by kernel_rfl) (by kernel_rfl) (by kernel_rfl) (fun _ _ _ h => h) ⟨Or.inl ⟨by rfl, by (intro w'; go_simp)⟩, fun _ => rfl⟩ ?_
                    refine wpAnyIn_take (i := 7) (v := .pointer (some ⟨gF, Z, none⟩)) rfl rfl (by kernel_rfl) (by kernel_rfl) (by kernel_rfl) (fun _ _ _ h => h) ⟨Or.inl ⟨by rfl, by (intro w'; go_simp)⟩, fun _ => rfl⟩ ?_
                    refine wpAnyIn_ready (rs := [8]) (by kernel_rfl) (by simp) ?_
                    refine AllReadyIn.cons rfl (fun K hK => ?_) ?_
                    · go_simp
                      refine hK _ _ ?_
                      clear hK K
                      refine wpAnyIn_done (by kernel_rfl) ?_ _
                      exact hX
                    exact AllReadyIn.nil
                  exact AllReadyIn.nil
                refine AllReadyIn.cons rfl (fun K hK => ?_) ?_
                · go_simp
                  refine hK _ _ ?_
                  clear hK K
                  refine wpAnyIn_take (i := 6) (v := .int .i64 (d + 1)) rfl rfl (by kernel_rfl) (by kernel_rfl) (by kernel_rfl) (fun _ _ _ h => h) ⟨Or.inl ⟨by rfl, by (intro w'; go_simp)⟩, fun _ => rfl⟩ ?_
                  refine wpAnyIn_ready (rs := [0]) (by kernel_rfl) (by simp) ?_
                  refine AllReadyIn.cons rfl (fun K hK => ?_) ?_
                  · go_simp
                    refine hK _ _ ?_
                    clear hK K
                    refine wpAnyIn_take (i := 7) (v := .pointer (some ⟨gF, Z, none⟩)) rfl rfl (by kernel_rfl) (by kernel_rfl) (by kernel_rfl) (fun _ _ _ h => h) ⟨Or.inl ⟨by rfl, by (intro w'; go_simp)⟩, fun _ => rfl⟩ ?_
                    refine wpAnyIn_ready (rs := [8]) (by kernel_rfl) (by simp) ?_
                    refine AllReadyIn.cons rfl (fun K hK => ?_) ?_
                    · go_simp
                      refine hK _ _ ?_
                      clear hK K
                      refine wpAnyIn_done (by kernel_rfl) ?_ _
                      exact hX
                    exact AllReadyIn.nil
                  exact AllReadyIn.nil
                exact AllReadyIn.nil
              exact AllReadyIn.nil
            refine AllReadyIn.cons rfl (fun K hK => ?_) ?_
            · go_simp
              refine hK _ _ ?_
              clear hK K
              refine wpAnyIn_ready (rs := [0, 2]) (by kernel_rfl) (by simp) ?_
              refine AllReadyIn.cons rfl (fun K hK => ?_) ?_
              · go_simp
                refine hK _ _ ?_
                clear hK K
                refine wpAnyIn_ready (rs := [2]) (by kernel_rfl) (by simp) ?_
                refine AllReadyIn.cons rfl (fun K hK => ?_) ?_
                · go_simp
                  refine hK _ _ ?_
                  clear hK K
                  refine wpAnyIn_take (i := 4) (v := .pointer (some ⟨gF, V, none⟩)) rfl rfl (by kernel_rfl) (by kernel_rfl) (by kernel_rfl) (fun _ _ _ h => h) ⟨Or.inl ⟨by rfl, by (intro w'; go_simp)⟩, fun _ => rfl⟩ ?_
                  refine wpAnyIn_ready (rs := [5]) (by kernel_rfl) (by simp) ?_
                  refine AllReadyIn.cons rfl (fun K hK => ?_) ?_
                  · go_simp
                    refine hK _ _ ?_
                    clear hK K
                    refine wpAnyIn_take (i := 6) (v := .int .i64 (d + 1)) rfl rfl (by kernel_rfl) (by kernel_rfl) (by kernel_rfl) (fun _ _ _ h => h) ⟨Or.inl ⟨by rfl, by (intro w'; go_simp)⟩, fun _ => rfl⟩ ?_
                    refine wpAnyIn_take (i := 7) (v := .pointer (some ⟨gF, Z, none⟩)) rfl rfl (by kernel_rfl) (by kernel_rfl) (by kernel_rfl) (fun _ _ _ h => h) ⟨Or.inl ⟨by rfl, by (intro w'; go_simp)⟩, fun _ => rfl⟩ ?_
                    refine wpAnyIn_ready (rs := [8]) (by kernel_rfl) (by simp) ?_
                    refine AllReadyIn.cons rfl (fun K hK => ?_) ?_
                    · go_simp
                      refine hK _ _ ?_
                      clear hK K
                      refine wpAnyIn_done (by kernel_rfl) ?_ _
                      exact hX
                    exact AllReadyIn.nil
                  exact AllReadyIn.nil
                exact AllReadyIn.nil
              refine AllReadyIn.cons rfl (fun K hK => ?_) ?_
              · go_simp
                refine hK _ _ ?_
                clear hK K
                refine wpAnyIn_take (i := 4) (v := .pointer (some ⟨gF, V, none⟩)) rfl rfl (by kernel_rfl) (by kernel_rfl) (by kernel_rfl) (fun _ _ _ h => h) ⟨Or.inl ⟨by rfl, by (intro w'; go_simp)⟩, fun _ => rfl⟩ ?_
                refine wpAnyIn_ready (rs := [0, 5]) (by kernel_rfl) (by simp) ?_
                refine AllReadyIn.cons rfl (fun K hK => ?_) ?_
                · go_simp
                  refine hK _ _ ?_
                  clear hK K
                  refine wpAnyIn_ready (rs := [5]) (by kernel_rfl) (by simp) ?_
                  refine AllReadyIn.cons rfl (fun K hK => ?_) ?_
                  · go_simp
                    refine hK _ _ ?_
                    clear hK K
                    refine wpAnyIn_take (i := 6) (v := .int .i64 (d + 1)) rfl rfl (by kernel_rfl) (by kernel_rfl) (by kernel_rfl) (fun _ _ _ h => h) ⟨Or.inl ⟨by rfl, by (intro w'; go_simp)⟩, fun _ => rfl⟩ ?_
                    refine wpAnyIn_take (i := 7) (v := .pointer (some ⟨gF, Z, none⟩)) rfl rfl (by kernel_rfl) (by kernel_rfl) (by kernel_rfl) (fun _ _ _ h => h) ⟨Or.inl ⟨by rfl, by (intro w'; go_simp)⟩, fun _ => rfl⟩ ?_
                    refine wpAnyIn_ready (rs := [8]) (by kernel_rfl) (by simp) ?_
                    refine AllReadyIn.cons rfl (fun K hK => ?_) ?_
                    · go_simp
                      refine hK _ _ ?_
                      clear hK K
                      refine wpAnyIn_done (by kernel_rfl) ?_ _
                      exact hX
                    exact AllReadyIn.nil
                  exact AllReadyIn.nil
                refine AllReadyIn.cons rfl (fun K hK => ?_) ?_
                · go_simp
                  refine hK _ _ ?_
                  clear hK K
                  refine wpAnyIn_take (i := 6) (v := .int .i64 (d + 1)) rfl rfl (by kernel_rfl) (by kernel_rfl) (by kernel_rfl) (fun _ _ _ h => h) ⟨Or.inl ⟨by rfl, by (intro w'; go_simp)⟩, fun _ => rfl⟩ ?_
                  refine wpAnyIn_ready (rs := [0]) (by kernel_rfl) (by simp) ?_
                  refine AllReadyIn.cons rfl (fun K hK => ?_) ?_
                  · go_simp
                    refine hK _ _ ?_
                    clear hK K
                    refine wpAnyIn_take (i := 7) (v := .pointer (some ⟨gF, Z, none⟩)) rfl rfl (by kernel_rfl) (by kernel_rfl) (by kernel_rfl) (fun _ _ _ h => h) ⟨Or.inl ⟨by rfl, by (intro w'; go_simp)⟩, fun _ => rfl⟩ ?_
                    refine wpAnyIn_ready (rs := [8]) (by kernel_rfl) (by simp) ?_
                    refine AllReadyIn.cons rfl (fun K hK => ?_) ?_
                    · go_simp
                      refine hK _ _ ?_
                      clear hK K
                      refine wpAnyIn_done (by kernel_rfl) ?_ _
                      exact hX
                    exact AllReadyIn.nil
                  exact AllReadyIn.nil
                exact AllReadyIn.nil
              exact AllReadyIn.nil
            exact AllReadyIn.nil
          · have hEg := hid (show farE es keep V S e = (S.1.set Z (d + 1), S.2 ++ [(Z : Int)]) by unfold farE; rw [HZ.out, Int.toNat_natCast, if_pos ⟨HKB.out, HYZ.out⟩, Int.toNat_natCast, HDd.out])
            have hBd : Below W'.heap.size W' (W'.drewN (nq + 1)) := bdn.mpr (Below.refl _ _)
            have HMx := hid (QM.put (H1.out.on hBd) (k := Z) (by rw [HFS.out.len]; exact hZN) (d + 1))
            have HKo := hid (KeepsOthers.trans (show KeepsOthers W' (W'.drewN (nq + 1)) from ⟨Nat.le_refl _, fun _ _ h _ => h⟩) (KeepsOthers.setCell _ ⟨gF, Z, none⟩ (.int .i64 (d + 1))))
            have HBv := hid (show Boxed ((W'.drewN (nq + 1)).setCell ⟨gF, Z, none⟩ (.int .i64 (d + 1))) W.heap.size 2 (.int .i64 V) from (heap_setCell_other _ ⟨gF, Z, none⟩ W.heap.size _ (by show W.heap.size ≠ gF; omega)).trans H2.out)
            have HBb := hid (show ((W'.drewN (nq + 1)).setCell ⟨gF, Z, none⟩ (.int .i64 (d + 1))).heap[W.heap.size + 1 + 1]? = W'.heap[W.heap.size + 1 + 1]? from (heap_setCell_other _ ⟨gF, Z, none⟩ _ _ (by show W.heap.size + 1 + 1 ≠ gF; omega)))
            have hzx : ((W'.drewN (nq + 1)).setCell ⟨gF, Z, none⟩ (.int .i64 (d + 1))).heap.size = W'.heap.size := by simp [World.setCell]
            obtain ⟨Wx, hWx⟩ : ∃ Wx, Wx = (W'.drewN (nq + 1)).setCell ⟨gF, Z, none⟩ (.int .i64 (d + 1)) := ⟨_, rfl⟩
            rw [← hWx] at HMx HKo HBv HBb hzx ⊢
            have HZX := hid hzx
            have hBx : Below w1.heap.size W' Wx := by rw [hWx]; exact (hBd.mono H1.out.size).setCell (p := ⟨gF, Z, none⟩) H1.out.geF _
            have HBX := hid hBx
            clear hWx hBd hzx hBx hqb' hqf' hcy hcd hfy hfb' hvb' hxi hyi hyx hyy hc1 hc2 hneq
            have hqx := HMx.out.queue.cell
            have hqzx := HMx.out.queue.lt
            have hsx := HMx.out.size
            have HLit := hid (show (Wx.alloc (.cells #[.int .i64 Z] 2)).cell? ⟨Wx.heap.size, 0, none⟩ = some (.int .i64 Z) from (cell_of_row _ Wx.heap.size 0 _ _ _ (World.alloc_heap_new Wx _)).trans rfl)
            have HMa := hid (QM.alloc HMx.out (.cells #[.int .i64 Z] 2))
            have hlq1 : lq' ≤ 1000 := by omega
            gi_wp2_with (gi_at_builtin; refine wpListIn_append_queue rfl (.tmp 56) (.tmp 58) rfl i0 Hi.out hz0 hz1 hz2 lq' HMa.out.len hlq1 HMa.out.ownQ rfl Z ⟨Wx.heap.size, 0, none⟩ HLit.out 1 rfl ?_; intro g6 o6 c6 w6 r1 r2 r3 r4; have hb6 : Boxed w6 bQ 25 (.slice (some ⟨gq', oq', none⟩) lq' cq') := HMa.out.queue.kept r2 (fun e => HMa.out.ownQ.ne HMa.out.queue (Option.some.inj e)); have hc6 := hb6.cell; have hf6 := hb6.frozen; have R1 := hid r1; have R2 := hid r2; have R3 := hid r3; have R4 := hid r4; clear r1 r2 r3 r4)
            have hzx := HZX.out
            have hzs : (w6.setCell ⟨bQ, 0, none⟩ (.slice (some ⟨g6, o6, none⟩) (lq' + 1) c6)).heap.size = w6.heap.size := by simp [World.setCell]
            have hz6 := R2.out.size
            rw [World.size_alloc] at hz6
            have hBv2 : Wx.heap.size > W.heap.size + 1 + 1 := by omega
            refine ⟨(((HKo.out.trans (KeepsOthers.alloc Wx _)).trans R4.out).trans (KeepsOthers.setCell w6 _ _)).from _, ⟨?_, ?_⟩, g6, ⟨o6, c6, lq' + 1, ?_⟩, ?_, ?_, ?_⟩
            · exact ((HBX.out.alloc hsx _).grown R2.out (by rw [World.size_alloc]; omega) (fun k e => by cases e; exact HMx.out.ge)).setCell (p := ⟨bQ, 0, none⟩) HMx.out.bge _
            · refine (heap_setCell_other w6 ⟨bQ, 0, none⟩ _ _ (by show W.heap.size + 1 + 1 ≠ bQ; omega)).trans ((R2.out.block _ (by rw [World.size_alloc]; omega) (fun e => by have := Option.some.inj e; omega)).trans ((Below.heap_alloc Wx _ _ (by omega)).trans HBb.out))
            · rw [HS2.out, hEg.out]
              exact QM.push HMa.out HES.out R1.out R2.out R3.out
            · exact (heap_setCell_other w6 ⟨bQ, 0, none⟩ _ _ (by show W.heap.size ≠ bQ; omega)).trans ((R2.out.block _ (by rw [World.size_alloc]; omega) (fun e => by have := Option.some.inj e; omega)).trans ((Below.heap_alloc Wx _ _ (by omega)).trans HBv.out))
            · rcases R3.out with h | h
              · rw [h]; exact h3
              · rw [World.size_alloc] at h; omega
            · rw [hzs]; omega
        · have HE := hid (show farE es keep V S e = S by unfold farE; rw [HZ.out, Int.toNat_natCast, if_neg (fun h => hgo ⟨by rw [← HYZ.out]; exact h.2, by rw [← HKB.out]; exact h.1⟩)])
          have hfin : Hid (∀ nq, ownPostG ((((W.alloc (.cells #[.int .i64 V] 2)).alloc (.cells #[.int .i64 N, .slice (some ⟨b, off, none⟩) n c] 24)).alloc (.cells #[.int .i64 V] 2))).heap.size (KpB w1.heap.size (W.heap.size + 1 + 1)) (fun (pre : List (ArS es V)) W' => ∃ gq' oq' cq' lq', QM w1 W' w2.heap.size gF bQ N i Ds (farL es keep V (farS N es keep E i) (pre.map fun z => z.1.1)) gq' oq' cq' lq' ∧ Boxed W' W.heap.size 2 (.int .i64 V) ∧ (gq' < W.heap.size ∨ W.heap.size + 1 + 1 + 1 ≤ gq') ∧ W.heap.size + 1 + 1 + 1 ≤ W'.heap.size) (fun _ _ _ => False) (pre ++ [z]) W' .normal { tmps := #[], defers := [] } (W'.drewN nq)) := hid (fun nq => by
            have hB : Below W'.heap.size W' (W'.drewN nq) := bdn.mpr (Below.refl _ _)
            refine ⟨⟨Nat.le_refl _, fun k o _ hk _ => hk⟩, ⟨hB.mono H1.out.size, rfl⟩, gq', oq', cq', lq', ?_, H2.out, h3, h4⟩
            rw [HS2.out, HE.out]
            exact H1.out.on hB)
          cases kb
          · by_cases hgy : yz = -1
            · subst hgy
              gi_wp2
              refine region_round_quiet rfl (by kernel_rfl) (by kernel_rfl) (by kernel_rfl) ?_
              repeat (gi_big_quiet_step (fail))
              refine wpQuietIn_nil ?_
              intro _ hw'
              obtain ⟨nq, rfl⟩ := hw'
              gi_wp2
              exact hfin.out nq
            · have hgo' : (yz == -1) = false := by simpa using hgy
              gi_wp2
              refine region_round_quiet rfl (by kernel_rfl) (by kernel_rfl) (by kernel_rfl) ?_
              repeat (gi_big_quiet_step (fail))
              refine wpQuietIn_nil ?_
              intro _ hw'
              obtain ⟨nq, rfl⟩ := hw'
              gi_wp2
              exact hfin.out nq
          · have hgo' : (yz == -1) = false := by simpa using (fun h => hgo ⟨h, rfl⟩)
            gi_wp2
            refine region_round_quiet rfl (by kernel_rfl) (by kernel_rfl) (by kernel_rfl) ?_
            repeat (gi_big_quiet_step (fail))
            refine wpQuietIn_nil ?_
            intro _ hw'
            obtain ⟨nq, rfl⟩ := hw'
            gi_wp2
            exact hfin.out nq
      case done =>
        rintro D ys W' hDz hys ⟨gq', oq', cq', lq', h1, h2, h3, h4⟩ hK
        have hyl : (ys.map fun z => z.1.1) = onL es V := by
          have h := congrArg (List.map Prod.fst) hys
          rw [List.map_map, arF_onL] at h
          exact h
        rw [hyl] at h1
        have hstep : farL es keep V (farS N es keep E i) (onL es V) = farS N es keep E (i + 1) := by rw [farS_step HIL.out, HV.out]
        rw [hstep] at h1
        have hgr := farS_grows (keep := keep) EI.out HA.out i
        have hlq : ∃ l', lq' = l' + 1 := ⟨lq' - 1, by have := h1.len; rw [List.length_drop] at this; have := hgr.2.1; have := HIL.out; omega⟩
        obtain ⟨l', rfl⟩ := hlq
        have H1 := hid h1
        have HKd := hid hK
        have HDz := hid hDz
        have HIS := hid (show i + 1 ≤ (farS N es keep E (i + 1)).2.length by have := hgr.2.1; have := HIL.out; omega)
        have hqb' := h1.queue.cell
        have hqf' := h1.queue.frozen
        have hqz' := h1.queue.lt
        clear h1 h2 hyl hys hstep hgr hK hDz hqb hcv hxw hyw hfb
        have HN := hid (show N - (colls Ds).length < N + 1 - (colls Ds).length by have h1 := FI.out.le; have h2 := HIL.out; have h3 := HI.out; simp only [colls, List.length_map]; omega)
        have HDD := hid (show (D :: Ds).Nodup from List.nodup_cons.2 ⟨fun hin => by have h1 := HDs.out D hin; have h2 := HDz.out; simp only [World.size_alloc] at h2; omega, hD.out.1⟩)
        have HMo := hid (QM.more H1.out HKd.out (by have h2 := HDz.out; simp only [World.size_alloc] at h2; omega))
        have HLen := hid (show (D :: Ds).length = i + 1 by rw [List.length_cons, HI.out])
        gi_wp2
        · rename_i hcz
          have hcut := QM.cut0 HMo.out rfl (by omega)
          exact ⟨⟨_, D :: Ds, ⟨rfl, rfl⟩, ⟨_, _, _, _, hid (by rw [HLen.out]; exact QM.next HMo.out rfl hcut.1)⟩, hid ⟨HDD.out, by rw [HLen.out]; exact HIS.out⟩⟩, HN.out⟩
        · exact ⟨⟨_, D :: Ds, ⟨rfl, rfl⟩, ⟨_, _, _, _, hid (by rw [HLen.out]; exact QM.next HMo.out rfl (QM.cut HMo.out rfl))⟩, hid ⟨HDD.out, by rw [HLen.out]; exact HIS.out⟩⟩, HN.out⟩
      case stop =>
        rintro D c' pre W' _ _ h _
        exact h.elim

end Go.Proofs.Ytpadnliebimceaa
