/- The pairs of colours in the program: pairsWithin, the range over them, and the maker of the range over chains. -/
import Derived.Test.YtjkemganbfldpaaChqS
import Derived.Test.YtjkemganbfldpaaChqI
import Derived.Deep.AppendLies
import Derived.Deep.DeepMust
namespace Go.Proofs.Ytjkemganbfldpaa
open Go.RowKit Go.Shelf

attribute [local go_sem] Oper.semAt_some

def prsL (k : Nat) : List (Int × Int) := (List.range k).map fun i => (prA i, prB i)
theorem prsL_len (k : Nat) : (prsL k).length = k := by simp [prsL]
theorem prsL_succ (k : Nat) : prsL (k + 1) = prsL k ++ [(prA k, prB k)] := by
  unfold prsL
  rw [List.range_succ, List.map_append]
  rfl
theorem prsL_eA {k i : Nat} (hi : i < k) : eA (prsL k) i = prA i := by
  unfold eA prsL
  simp [List.getD_eq_getElem?_getD, hi]
theorem prsL_eB {k i : Nat} (hi : i < k) : eB (prsL k) i = prB i := by
  unfold eB prsL
  simp [List.getD_eq_getElem?_getD, hi]

set_option maxRecDepth 100000 in
set_option maxHeartbeats 4000000 in
theorem iWithin_three (w : World) :
    Calls Try.prog 29 #[.int .i64 0, .int .i64 2] w fun e' w' => ∃ g cap, e' = .returned (.slice (some ⟨g, 0, none⟩) 3 cap) ∧ w.heap.size ≤ g ∧ OwnE w' g cap (prsL 3) ∧ Below w.heap.size w w' := by
  obtain ⟨j0, hj, hy0, hy1, hy2⟩ := info_parts infoEdge
  have Hj := hid hj
  clear hj
  go_enter Try.func29, Try.ntmps29
  go_wp2
  go_loopw [5, 6] (fun u v wr => ∃ (a l cap : Nat) (q : Option Addr), a ≤ 2 ∧ Hid (l = lab a (a + 1)) ∧ u = .slice q l cap ∧ v = .int .i64 a ∧ Hid (wr.ownsRow w.heap.size 55 2 (.slice q l cap) l (edgeVals (prsL l))) ∧ Hid (Below w.heap.size w wr)) (fun _ v _ => 2 - (intOf v).toNat)
  case atStart => exact ⟨0, 0, 0, none, Nat.zero_le _, hid (by decide), rfl, rfl, hid (World.ownsRow_nil _ _ _ _), hid (Below.refl _ _)⟩
  case round =>
    obtain ⟨a, l, cap, q, ha, hla, rfl, rfl, hO, hB⟩ := hrel
    by_cases hlt : a < 2
    · have hlt' : (a : Int) < 2 := by omega
      have ew : IntKind.i64.wrap ((a : Int) + 1) = ((a + 1 : Nat) : Int) := by rw [IntWalk.i64_in _ (by omega)]; omega
      go_wp2
      go_loopw [5, 7] (fun u v wr => ∃ (b' l2 cap2 : Nat) (q2 : Option Addr), a < b' ∧ b' ≤ 3 ∧ Hid (l2 = lab a b') ∧ u = .slice q2 l2 cap2 ∧ v = .int .i64 b' ∧ Hid (wr.ownsRow w.heap.size 55 2 (.slice q2 l2 cap2) l2 (edgeVals (prsL l2))) ∧ Hid (Below w.heap.size w wr)) (fun _ v _ => 3 - (intOf v).toNat)
      case atStart => exact ⟨a + 1, l, cap, q, by omega, by omega, hla, rfl, by go_num, hO, hB⟩
      case round =>
        obtain ⟨b', l2, cap2, q2, hab, hb3, hl2, rfl, rfl, hO2, hB2⟩ := hrel
        by_cases hltb : b' < 3
        · have hltb' : (b' : Int) ≤ 2 := by omega
          have hl3 : l2 ≤ 3 := by rw [hl2.out]; exact lab_le hb3
          have hsz := hB2.out.size
          have HRow := hid (World.ownsRow.alloc hO2.out (.cells #[.int .i64 a, .int .i64 b'] 55))
          have HPR := hid (lab_pr hab hltb)
          have hrow : ∀ j', (Value.slice q2 l2 cap2).ownBlock = some j' → w.heap.size ≤ j' ∧ j' < wr.heap.size := hO2.out.lt
          obtain ⟨wi, rfl⟩ : ∃ wi : World, wi = wr := ⟨_, rfl⟩
          go_wp2_with (at_builtin; go_must (refine wpList_append_lies _ rfl (.tmp 21) (.tmp 25) 29 rfl w.heap.size 55 j0 (.agg #[.int .i64 0, .int .i64 0]) 2 16 Try.underlying29 Hj.out hy0 hy1 hy2 rfl (by decide) (.slice q2 l2 cap2) l2 _ rfl HRow.out ⟨wi.heap.size, 0, none⟩ 1 1 [.int .i64 a, .int .i64 b'] rfl rfl (World.news_of_block (cs := #[.int .i64 a, .int .i64 b']) (t := 55) (fr := (0, 0)) (heap_alloc_new _ _)) (by simp [Value.oneCell']) (by decide) (by unfold maxLen; omega) (by omega) (by rw [World.size_alloc]; omega) (wi.heap.size + 1) (by rw [World.size_alloc]) ?_); intro g7 cap7 w7 hown7 hgrow7 hlie7 hg7; have Hown := hid hown7; have Hgrow := hid hgrow7; clear hown7 hgrow7 hlie7)
          go_roundw
          case rel =>
            refine ⟨b' + 1, l2 + 1, cap7, some ⟨g7, 0, none⟩, by omega, by omega, hid (by rw [lab_next hab hltb, hl2.out]), rfl, by go_num, hid ?_, hid ?_⟩
            · rw [prsL_succ, edgeVals_append, hl2.out, HPR.out.1, HPR.out.2, ← hl2.out]; exact Hown.out
            · exact (hB2.out.alloc hsz (.cells #[.int .i64 a, .int .i64 b'] 55)).grown Hgrow.out (by rw [World.size_alloc]; omega) (fun j' e => (hrow j' e).1)
          case measure => simp [intOf]; omega
        · obtain rfl : b' = 3 := by omega
          go_wp2
          go_roundw
          case rel => exact ⟨a + 1, l2, cap2, q2, by omega, hid (by rw [hl2.out]; exact lab_turn (by omega)), rfl, by go_num, hO2, hB2⟩
          case measure => simp [intOf]; omega
    · obtain rfl : a = 2 := by omega
      obtain rfl : l = 3 := hla.out
      have hF := hO.out.2
      obtain ⟨g, rfl⟩ : ∃ g, q = some ⟨g, 0, none⟩ := by
        rcases hF with ⟨_, h0⟩ | ⟨gS, capS, cur, hv, _⟩
        · omega
        · exact ⟨gS, (Value.slice.inj hv).1⟩
      go_wp2
      go_ret
      have h := OwnE.of_row hO.out (prsL_len 3)
      exact ⟨_, _, rfl, h.2, h.1, hB.out⟩

set_option maxHeartbeats 1000000 in
/-- The maker of the range over chains: its four arguments are boxed. -/
theorem iChainsWith_func (s a b : Int) (p pc : Option Addr) (n c m f0 : Nat) (w : World) :
    Calls Try.prog 20 #[.agg #[.int .i64 s, .slice p n c], .slice pc m f0, .int .i64 a, .int .i64 b] w fun e w' => e = .returned (.func (.func 30) #[] #[.pointer (some ⟨w.heap.size + 1, 0, none⟩), .pointer (some ⟨w.heap.size + 1 + 1, 0, none⟩), .pointer (some ⟨w.heap.size, 0, none⟩), .pointer (some ⟨w.heap.size + 1 + 1 + 1, 0, none⟩)]) ∧
      w' = (((w.alloc (.cells #[.int .i64 s, .slice p n c] 31)).alloc (.cells #[.slice pc m f0] 25)).alloc (.cells #[.int .i64 a] 2)).alloc (.cells #[.int .i64 b] 2) := by
  go_enter Try.func20, Try.ntmps20
  go_wp2
  go_ret
  exact ⟨rfl, rfl⟩

/-- All rows of edges are as they were. -/
def KeptE (W W' : World) : Prop := W.heap.size ≤ W'.heap.size ∧ ∀ (i : Nat) (cur : Array Value) (fr : Nat × Nat), W.heap[i]? = some (.cells cur 55 fr) → W'.heap[i]? = W.heap[i]?
theorem keptE_t {A B C : World} (h : KeptE A B) (k : KeptE B C) : KeptE A C := ⟨Nat.le_trans h.1 k.1, fun i cur fr hi => (k.2 i cur fr ((h.2 i cur fr hi).trans hi)).trans (h.2 i cur fr hi)⟩
theorem keptE_put {W : World} {l : Nat} {o o' : Obj} (h : W.heap[l]? = some o) (ho : o.isCells = false) : KeptE W (W.putObj l o') := ⟨by simp [World.putObj], fun i cur fr hi => World.putObj_heap_other (fun e => by
  subst e
  rw [h] at hi
  cases hi
  cases ho)⟩
theorem OwnE.keptE {W W' : World} {g cap : Nat} {es : List (Int × Int)} (h : OwnE W g cap es) (k : KeptE W W') : OwnE W' g cap es := by
  obtain ⟨cur, hc, r⟩ := h
  exact ⟨cur, (k.2 g cur _ hc).trans hc, r⟩

/-- The pairs by their numbers. -/
abbrev encP (k : Nat) : Array Value := #[.int .i64 (prA k), .int .i64 (prB k)]

set_option maxRecDepth 100000 in
set_option maxHeartbeats 8000000 in
theorem pairs_moves (d Ab : Nat) (w0 : World) :
    SeqMoves Fence.wide (d + 1) Try.prog 19 #[] encP Ab (fun k _ => k < 3) KeptE (fun X Y => Below X.heap.size X Y) (fun ys => ys = List.range 3) (fun _ => True) 3 w0 := by
  intro l J Jx W hW hB hJ hJx hY h0
  have HJ := hid hJ
  have HJx := hid hJx
  have HY := hid hY
  clear hJ hJx hY
  refine callsIn_of_wp Try.func19 rfl trivial ?_ rfl
  simp only [Try.ntmps19, List.size_toArray, List.length_cons, List.length_nil, Nat.reduceAdd, Nat.reduceSub, Array.replicate_succ, Array.replicate_zero, List.push_toArray, List.append_toArray, List.nil_append, List.cons_append]
  gi_wp2_with (refine ⟨trivial, ?_⟩; gi_at_call 29; refine (callsIn_wide.2 (iWithin_three _)).mono ?_; rintro e w2 ⟨g, cap, rfl, hg2, hO2, hb2⟩; have HO2 := hid hO2; have HJ2 := hid (HJ.out [] W w2 h0 hb2); clear hO2 hb2)
  gi_loopw [6] (fun i wr => ∃ (k : Nat), k ≤ 3 ∧ i = .int .i64 k ∧ Hid (J (List.range k) wr) ∧ Hid (OwnE wr g cap (prsL 3))) (fun i _ => 3 - (intOf i).toNat)
  case atStart => exact ⟨0, Nat.zero_le _, rfl, HJ2, HO2⟩
  case round =>
    obtain ⟨k, hk, rfl, hJk, hO⟩ := hrel
    clear HJ2 HO2
    by_cases hlt : k < 3
    · have hlt' : (k : Int) < 3 := by omega
      have hrd := hO.out.reads k (by rw [prsL_len]; exact hlt)
      have hc1 := hrd.1
      have hc2 := hrd.2
      rw [prsL_eA hlt, Nat.zero_add] at hc1
      rw [prsL_eB hlt, Nat.zero_add] at hc2
      have hgl := hO.out.lt
      obtain ⟨wo, rfl⟩ : ∃ wo : World, wo = wr := ⟨_, rfl⟩
      have HJ3 := hid (HJ.out (List.range k) wo _ hJk.out (on_alloc wo (.cells #[.int .i64 (prA k), .int .i64 (prB k)] 55)))
      have HO3 := hid (hO.out.on (on_alloc wo (.cells #[.int .i64 (prA k), .int .i64 (prB k)] 55)))
      obtain ⟨fn, tmps, assign, body, hy, hR⟩ := HY.out (List.range k) k _ HJ3.out hlt (by rw [List.length_range]; exact hlt)
      dsimp only [encP] at hy
      have hR' := hid hR
      clear hR hrd
      gi_wp2
      refine hR'.out.mono ?_
      rintro e W3 (⟨rfl, hJ5, hK5⟩ | ⟨rfl, hJx5⟩)
      · have HJ5 := hid hJ5
        have HK5 := hid hK5
        clear hJ5 hK5
        gi_wp2
        go_roundw
        case rel => exact ⟨k + 1, by omega, by go_num, hid (by rw [List.range_succ]; exact HJ5.out), hid (HO3.out.keptE HK5.out)⟩
        case measure => simp [intOf]; omega
      · gi_wp2
        refine bodyPost_ret (results_none rfl _ _ _) rfl ?_
        exact ⟨⟨_, rfl⟩, .inr ⟨_, trivial, hJx5⟩⟩
    · obtain rfl : k = 3 := by omega
      gi_wp2
      go_end0
      exact ⟨⟨_, rfl⟩, .inl ⟨_, rfl, hJk.out⟩⟩

end Go.Proofs.Ytjkemganbfldpaa
