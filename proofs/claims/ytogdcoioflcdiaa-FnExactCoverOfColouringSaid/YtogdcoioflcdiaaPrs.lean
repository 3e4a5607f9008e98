/- The pairs of colours in the program: pairsWithin and the range over them. Regions that draw their order inside a round of a range over a function: what holds of them outside of rounds holds in one, if they hold no defer. -/
import Derived.Test.YtogdcoioflcdiaaImplG
import Derived.Test.YtogdcoioflcdiaaLawsD
import Derived.Test.YtogdcoioflcdiaaMoves
import Derived.Test.YtogdcoioflcdiaaOwnMore
import Derived.OrdersIn
import Derived.RangeFuncBox
import Derived.Shelf.Abstract
import Derived.Shelf.RegionOpen
import Derived.TacticsInMore
import Derived.LoopNIn
import Derived.LoopIn
import Derived.TacticsIn
import Derived.OwnWalkIn
import Derived.WalkKit
import Derived.WalkMore
import Derived.StillTailTactics
import Derived.BigQuiet
import Derived.Deep.AppendLies
import Derived.Deep.DeepMust

/- Numbers below a bound, in the program. -/
namespace Go.Proofs.Ytogdcoioflcdiaa
open Go.RowKit

set_option maxRecDepth 100000 in
set_option maxHeartbeats 2000000 in
theorem iAreBelow_any (N : Int) (b off m c : Nat) (xs : List Int) (w : World) (hx : xs.length = m) (hm : m ≤ 1048576) (hr : ReadsI w b off xs) :
    Calls Try.prog 108 #[.int .i64 N, .slice (some ⟨b, off, none⟩) m c] w fun e w' => e = .returned (.bool (decide (∀ i, i < m → 0 ≤ eI xs i ∧ eI xs i < N))) ∧ w' = w := by
  have Hx := hid hx
  have Hr := hid hr
  have hm9 : m ≤ 9223372036854775807 := by omega
  obtain ⟨r, hR⟩ : ∃ r, decide (∀ i, i < m → 0 ≤ eI xs i ∧ eI xs i < N) = r := ⟨_, rfl⟩
  rw [hR]
  have HR := hid hR
  clear hx hr hR
  go_enter Try.func108, Try.ntmps108
  go_wp2
  go_loop [9] (fun i => ∃ k : Nat, k ≤ m ∧ i = .int .i64 k ∧ Hid (∀ j, j < k → 0 ≤ eI xs j ∧ eI xs j < N)) (fun i => m - (intOf i).toNat)
  case atStart => exact ⟨0, Nat.zero_le _, rfl, hid (fun j hj => by omega)⟩
  case round =>
    obtain ⟨k, hk, rfl, hE⟩ := hrel
    by_cases hlt : k < m
    · have hlt' : (k : Int) < (m : Int) := by omega
      have h1 := Hr.out k (by have := Hx.out; omega)
      obtain ⟨y, hy⟩ : ∃ y, eI xs k = y := ⟨_, rfl⟩
      rw [hy] at h1
      have HY := hid hy
      clear hy
      by_cases hv : 0 ≤ y ∧ y < N
      · have Hv := hid hv
        clear hv
        go_wp2_with (go_at_call 96; refine (iBelow_yes _ _ _ Hv.out).mono ?_; rintro e' w' ⟨rfl, rfl⟩)
        go_round
        case rel =>
          refine ⟨k + 1, by omega, by go_num, hid (fun j hj => ?_)⟩
          rcases Nat.lt_or_ge j k with h | h
          · exact hE.out j h
          · have ej : j = k := by omega
            rw [ej, HY.out]
            exact Hv.out
        case measure => simp [intOf]; omega
      · have Hv := hid hv
        clear hv
        go_wp2_with (go_at_call 96; refine (iBelow_no _ _ _ Hv.out).mono ?_; rintro e' w' ⟨rfl, rfl⟩)
        go_ret
        refine ⟨?_, rfl⟩
        rw [← HR.out, decide_eq_false (fun h => Hv.out (by have h1 := h k hlt; rwa [HY.out] at h1))]
        rfl
    · have hkn := hid (show k = m by omega)
      go_wp2
      go_ret
      refine ⟨?_, rfl⟩
      rw [← HR.out, decide_eq_true (fun j hj => hE.out j (by have := hkn.out; omega))]
      rfl

end Go.Proofs.Ytogdcoioflcdiaa

namespace Go.Proofs.Ytogdcoioflcdiaa
open Go.RowKit Go.Shelf

def plainB (o : Oper) : Bool := match o.op with
  | .defer _ => false
  | _ => true
theorem plainB_ne {o : Oper} (h : plainB o = true) : ∀ c, o.op ≠ .defer c := fun c e => by
  unfold plainB at h
  rw [e] at h
  cases h

section
variable {F : Fence} {n l : Nat} {P : Program} {ops : Array Oper} {Q : Exit → Act → World → Prop} {md : Region.Mode}

theorem oper_round {o : Oper} {a : Act} {w : World} {K K' : Act → World → Prop} (hF : F.round = none) (hnd : ∀ c, o.op ≠ .defer c) (hK : ∀ a w, K a w → K' a w) (h : o.wpIn F n P a w K Q) : o.wpIn (F.inRound l) n P a w K' Q := by
  have h := Oper.wpIn_mono hK h
  unfold Oper.wpIn at h ⊢
  obtain ⟨h1, h2⟩ := h
  refine ⟨h1, ?_⟩
  rw [show (F.inRound l).round = some l from rfl, Oper.semAt_eq _ _ _ hnd]
  rw [hF, Oper.semAt_none] at h2
  generalize (execOp a.eval o).run P w = r at *
  cases r with
  | ok x w' => cases x <;> exact h2
  | halt x w' => cases x <;> exact h2

theorem any_round (hF : F.round = none) (hnd : ops.toList.all plainB = true) : ∀ (fuel : Nat) (listed : Array Bool) (a : Act) (w : World), wpAnyIn F n P md ops Q fuel listed a w → wpAnyIn (F.inRound l) n P md ops Q fuel listed a w
  | 0, _, _, _, h => h
  | fuel + 1, listed, a, w, h => by
    refine ⟨h.1, fun i hi => ?_⟩
    have h2 := h.2 i hi
    unfold wpOpIn at h2 ⊢
    cases ho : ops[i]? with
    | none =>
      rw [ho] at h2
      exact any_round hF hnd fuel _ _ _ h2
    | some o =>
      rw [ho] at h2
      simp only at h2 ⊢
      have hno : ∀ c, o.op ≠ .defer c := plainB_ne (List.all_eq_true.1 hnd o (by
        obtain ⟨h3, h4⟩ := Array.getElem?_eq_some_iff.1 ho
        rw [← h4]
        exact Array.getElem_mem_toList h3))
      split at h2
      · rename_i hw
        rw [if_pos hw]
        exact oper_round hF hno (fun a' w' h' => any_round hF hnd fuel _ a' w' h') h2
      · rename_i hw
        rw [if_neg hw]
        exact ⟨h2.1, any_round hF hnd fuel _ _ _ h2.2⟩

theorem region_round {id : Nat} {a : Act} {w : World} (hF : F.round = none) (hm : P.follows .mixedOrders = true) (hnd : ops.toList.all plainB = true)
    (h : wpAnyIn F n P .any ops Q ops.size (Array.replicate ops.size false) a w.drew) : (Code.region id ops true).wpIn (F.inRound l) n P Q a w :=
  wpIn_region_any hm (any_round hF hnd _ _ _ _ h)
end

attribute [local go_sem] Oper.semAt_some

/-- The pairs of colours in their order, and the numbers of the first k. -/
def prA (k : Nat) : Int := if k < 2 then 0 else 1
def prB (k : Nat) : Int := if k = 0 then 1 else 2
def lab (a b : Nat) : Nat := if a = 0 then b - 1 else if a = 1 then b else 3
theorem lab_pr {a b : Nat} (h1 : a < b) (h2 : b < 3) : prA (lab a b) = a ∧ prB (lab a b) = b := by
  rcases (by omega : (a = 0 ∧ b = 1) ∨ (a = 0 ∧ b = 2) ∨ (a = 1 ∧ b = 2)) with ⟨rfl, rfl⟩ | ⟨rfl, rfl⟩ | ⟨rfl, rfl⟩ <;> decide
theorem lab_le {a b : Nat} (h : b ≤ 3) : lab a b ≤ 3 := by
  unfold lab
  split
  · omega
  · split <;> omega
theorem lab_next {a b : Nat} (h1 : a < b) (h2 : b < 3) : lab a (b + 1) = lab a b + 1 := by
  unfold lab
  split
  · omega
  · split <;> omega
theorem lab_turn {a : Nat} (h : a < 3) : lab a 3 = lab (a + 1) (a + 1 + 1) := by
  rcases (by omega : a = 0 ∨ a = 1 ∨ a = 2) with rfl | rfl | rfl <;> decide


def prsL (k : Nat) : List (Int × Int) := (List.range k).map fun i => (prA i, prB i)
theorem prsL_len (k : Nat) : (prsL k).length = k := by simp [prsL]
theorem prsL_succ (k : Nat) : prsL (k + 1) = prsL k ++ [(prA k, prB k)] := by
  unfold prsL
  rw [List.range_succ, List.map_append]
  rfl
theorem prsL_eA {k i : Nat} (hi : i < k) : eA (prsL k) i = prA i := by
  unfold eA prsL
  simp [List.getD_eq_getElem?_getD, hi]
theorem prsL_eB {k i : Nat} (hi : i < k) : eB (prsL k) i = prB i := by
  unfold eB prsL
  simp [List.getD_eq_getElem?_getD, hi]

set_option maxRecDepth 100000 in
set_option maxHeartbeats 4000000 in
theorem iWithin_three (w : World) :
    Calls Try.prog 129 #[.int .i64 0, .int .i64 2] w fun e' w' => ∃ g cap, e' = .returned (.slice (some ⟨g, 0, none⟩) 3 cap) ∧ w.heap.size ≤ g ∧ OwnE w' g cap (prsL 3) ∧ Below w.heap.size w w' := by
  obtain ⟨j0, hj, hy0, hy1, hy2⟩ := info_parts infoEdge
  have Hj := hid hj
  clear hj
  go_enter Try.func129, Try.ntmps129
  go_wp2
  go_loopw [5, 6] (fun u v wr => ∃ (a l cap : Nat) (q : Option Addr), a ≤ 2 ∧ Hid (l = lab a (a + 1)) ∧ u = .slice q l cap ∧ v = .int .i64 a ∧ Hid (wr.ownsRow w.heap.size 86 2 (.slice q l cap) l (edgeVals (prsL l))) ∧ Hid (Below w.heap.size w wr)) (fun _ v _ => 2 - (intOf v).toNat)
  case atStart => exact ⟨0, 0, 0, none, Nat.zero_le _, hid (by decide), rfl, rfl, hid (World.ownsRow_nil _ _ _ _), hid (Below.refl _ _)⟩
  case round =>
    obtain ⟨a, l, cap, q, ha, hla, rfl, rfl, hO, hB⟩ := hrel
    by_cases hlt : a < 2
    · have hlt' : (a : Int) < 2 := by omega
      have ew : IntKind.i64.wrap ((a : Int) + 1) = ((a + 1 : Nat) : Int) := by rw [IntWalk.i64_in _ (by omega)]; omega
      go_wp2
      go_loopw [5, 7] (fun u v wr => ∃ (b' l2 cap2 : Nat) (q2 : Option Addr), a < b' ∧ b' ≤ 3 ∧ Hid (l2 = lab a b') ∧ u = .slice q2 l2 cap2 ∧ v = .int .i64 b' ∧ Hid (wr.ownsRow w.heap.size 86 2 (.slice q2 l2 cap2) l2 (edgeVals (prsL l2))) ∧ Hid (Below w.heap.size w wr)) (fun _ v _ => 3 - (intOf v).toNat)
      case atStart => exact ⟨a + 1, l, cap, q, by omega, by omega, hla, rfl, by go_num, hO, hB⟩
      case round =>
        obtain ⟨b', l2, cap2, q2, hab, hb3, hl2, rfl, rfl, hO2, hB2⟩ := hrel
        by_cases hltb : b' < 3
        · have hltb' : (b' : Int) ≤ 2 := by omega
          have hl3 : l2 ≤ 3 := by rw [hl2.out]; exact lab_le hb3
          have hsz := hB2.out.size
          have HRow := hid (World.ownsRow.alloc hO2.out (.cells #[.int .i64 a, .int .i64 b'] 86))
          have HPR := hid (lab_pr hab hltb)
          have hrow : ∀ j', (Value.slice q2 l2 cap2).ownBlock = some j' → w.heap.size ≤ j' ∧ j' < wr.heap.size := hO2.out.lt
          obtain ⟨wi, rfl⟩ : ∃ wi : World, wi = wr := ⟨_, rfl⟩
          go_wp2_with (at_builtin; go_must (refine wpList_append_lies _ rfl (.tmp 21) (.tmp 25) 29 rfl w.heap.size 86 j0 (.agg #[.int .i64 0, .int .i64 0]) 2 16 Try.underlying29 Hj.out hy0 hy1 hy2 rfl (by decide) (.slice q2 l2 cap2) l2 _ rfl HRow.out ⟨wi.heap.size, 0, none⟩ 1 1 [.int .i64 a, .int .i64 b'] rfl rfl (World.news_of_block (cs := #[.int .i64 a, .int .i64 b']) (t := 86) (fr := (0, 0)) (heap_alloc_new _ _)) (by simp [Value.oneCell']) (by decide) (by unfold maxLen; omega) (by omega) (by rw [World.size_alloc]; omega) (wi.heap.size + 1) (by rw [World.size_alloc]) ?_); intro g7 cap7 w7 hown7 hgrow7 hlie7 hg7; have Hown := hid hown7; have Hgrow := hid hgrow7; clear hown7 hgrow7 hlie7)
          go_roundw
          case rel =>
            refine ⟨b' + 1, l2 + 1, cap7, some ⟨g7, 0, none⟩, by omega, by omega, hid (by rw [lab_next hab hltb, hl2.out]), rfl, by go_num, hid ?_, hid ?_⟩
            · rw [prsL_succ, edgeVals_append, hl2.out, HPR.out.1, HPR.out.2, ← hl2.out]; exact Hown.out
            · exact (hB2.out.alloc hsz (.cells #[.int .i64 a, .int .i64 b'] 86)).grown Hgrow.out (by rw [World.size_alloc]; omega) (fun j' e => (hrow j' e).1)
          case measure => simp [intOf]; omega
        · obtain rfl : b' = 3 := by omega
          go_wp2
          go_roundw
          case rel => exact ⟨a + 1, l2, cap2, q2, by omega, hid (by rw [hl2.out]; exact lab_turn (by omega)), rfl, by go_num, hO2, hB2⟩
          case measure => simp [intOf]; omega
    · obtain rfl : a = 2 := by omega
      obtain rfl : l = 3 := hla.out
      have hF := hO.out.2
      obtain ⟨g, rfl⟩ : ∃ g, q = some ⟨g, 0, none⟩ := by
        rcases hF with ⟨_, h0⟩ | ⟨gS, capS, cur, hv, _⟩
        · omega
        · exact ⟨gS, (Value.slice.inj hv).1⟩
      go_wp2
      go_ret
      have h := OwnE.of_row hO.out (prsL_len 3)
      exact ⟨_, _, rfl, h.2, h.1, hB.out⟩

/-- All rows of edges are as they were. -/
def KeptE (W W' : World) : Prop := W.heap.size ≤ W'.heap.size ∧ ∀ (i : Nat) (cur : Array Value) (fr : Nat × Nat), W.heap[i]? = some (.cells cur 86 fr) → W'.heap[i]? = W.heap[i]?
theorem keptE_t {A B C : World} (h : KeptE A B) (k : KeptE B C) : KeptE A C := ⟨Nat.le_trans h.1 k.1, fun i cur fr hi => (k.2 i cur fr ((h.2 i cur fr hi).trans hi)).trans (h.2 i cur fr hi)⟩
theorem keptE_put {W : World} {l : Nat} {o o' : Obj} (h : W.heap[l]? = some o) (ho : o.isCells = false) : KeptE W (W.putObj l o') := ⟨by simp [World.putObj], fun i cur fr hi => World.putObj_heap_other (fun e => by
  subst e
  rw [h] at hi
  cases hi
  cases ho)⟩
theorem OwnE.keptE {W W' : World} {g cap : Nat} {es : List (Int × Int)} (h : OwnE W g cap es) (k : KeptE W W') : OwnE W' g cap es := by
  obtain ⟨cur, hc, r⟩ := h
  exact ⟨cur, (k.2 g cur _ hc).trans hc, r⟩

/-- The pairs by their numbers. -/
abbrev encP (k : Nat) : Array Value := #[.int .i64 (prA k), .int .i64 (prB k)]

set_option maxRecDepth 100000 in
set_option maxHeartbeats 8000000 in
theorem pairs_moves (d Ab : Nat) (w0 : World) :
    SeqMoves Fence.wide (d + 1) Try.prog 74 #[] encP Ab (fun k _ => k < 3) KeptE (fun X Y => Below X.heap.size X Y) (fun ys => ys = List.range 3) (fun _ => True) 3 w0 := by
  intro l J Jx W hW hB hJ hJx hY h0
  have HJ := hid hJ
  have HJx := hid hJx
  have HY := hid hY
  clear hJ hJx hY
  refine callsIn_of_wp Try.func74 rfl trivial ?_ rfl
  simp only [Try.ntmps74, List.size_toArray, List.length_cons, List.length_nil, Nat.reduceAdd, Nat.reduceSub, Array.replicate_succ, Array.replicate_zero, List.push_toArray, List.append_toArray, List.nil_append, List.cons_append]
  gi_wp2_with (refine ⟨trivial, ?_⟩; gi_at_call 129; refine (callsIn_wide.2 (iWithin_three _)).mono ?_; rintro e w2 ⟨g, cap, rfl, hg2, hO2, hb2⟩; have HO2 := hid hO2; have HJ2 := hid (HJ.out [] W w2 h0 hb2); clear hO2 hb2)
  gi_loopw [6] (fun i wr => ∃ (k : Nat), k ≤ 3 ∧ i = .int .i64 k ∧ Hid (J (List.range k) wr) ∧ Hid (OwnE wr g cap (prsL 3))) (fun i _ => 3 - (intOf i).toNat)
  case atStart => exact ⟨0, Nat.zero_le _, rfl, HJ2, HO2⟩
  case round =>
    obtain ⟨k, hk, rfl, hJk, hO⟩ := hrel
    clear HJ2 HO2
    by_cases hlt : k < 3
    · have hlt' : (k : Int) < 3 := by omega
      have hrd := hO.out.reads k (by rw [prsL_len]; exact hlt)
      have hc1 := hrd.1
      have hc2 := hrd.2
      rw [prsL_eA hlt, Nat.zero_add] at hc1
      rw [prsL_eB hlt, Nat.zero_add] at hc2
      have hgl := hO.out.lt
      obtain ⟨wo, rfl⟩ : ∃ wo : World, wo = wr := ⟨_, rfl⟩
      have HJ3 := hid (HJ.out (List.range k) wo _ hJk.out (on_alloc wo (.cells #[.int .i64 (prA k), .int .i64 (prB k)] 86)))
      have HO3 := hid (hO.out.on (on_alloc wo (.cells #[.int .i64 (prA k), .int .i64 (prB k)] 86)))
      obtain ⟨fn, tmps, assign, body, hy, hR⟩ := HY.out (List.range k) k _ HJ3.out hlt (by rw [List.length_range]; exact hlt)
      dsimp only [encP] at hy
      have hR' := hid hR
      clear hR hrd
      gi_wp2
      refine hR'.out.mono ?_
      rintro e W3 (⟨rfl, hJ5, hK5⟩ | ⟨rfl, hJx5⟩)
      · have HJ5 := hid hJ5
        have HK5 := hid hK5
        clear hJ5 hK5
        gi_wp2
        go_roundw
        case rel => exact ⟨k + 1, by omega, by go_num, hid (by rw [List.range_succ]; exact HJ5.out), hid (HO3.out.keptE HK5.out)⟩
        case measure => simp [intOf]; omega
      · gi_wp2
        refine bodyPost_ret (results_none rfl _ _ _) rfl ?_
        exact ⟨⟨_, rfl⟩, .inr ⟨_, trivial, hJx5⟩⟩
    · obtain rfl : k = 3 := by omega
      gi_wp2
      go_end0
      exact ⟨⟨_, rfl⟩, .inl ⟨_, rfl, hJk.out⟩⟩

end Go.Proofs.Ytogdcoioflcdiaa
