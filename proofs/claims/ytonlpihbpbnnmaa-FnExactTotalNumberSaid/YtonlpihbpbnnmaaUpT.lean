/- The range over the numbers 1 to n, and the first one that passes, in the program: upTo, firstThat at int64. -/
import Derived.Test.YtonlpihbpbnnmaaIterA
import Derived.Test.YtonlpihbpbnnmaaOwnMore
namespace Go.Proofs.Ytonlpihbpbnnmaa
open Go.RowKit Go.Shelf

attribute [local go_sem] Oper.semAt_some

def upL (k : Nat) : List Nat := (List.range k).map (· + 1)
theorem upL_succ (k : Nat) : upL (k + 1) = upL k ++ [k + 1] := by
  unfold upL
  rw [List.range_succ, List.map_append]
  rfl
theorem upL_len (k : Nat) : (upL k).length = k := by simp [upL]
theorem upL_mem {k x : Nat} : x ∈ upL k ↔ 1 ≤ x ∧ x ≤ k := by
  unfold upL
  simp only [List.mem_map, List.mem_range]
  constructor
  · rintro ⟨i, h, rfl⟩; omega
  · intro h; exact ⟨x - 1, by omega, by omega⟩
abbrev UpS (N : Nat) : Type := { x : Nat // 1 ≤ x ∧ x ≤ N }
abbrev encU {N : Nat} (x : UpS N) : Array Value := #[.int .i64 (x.1 : Int)]
def lastV {N : Nat} (pre : List (UpS N)) : Nat := (pre.map Subtype.val).getLast?.getD 0
theorem lastV_app {N : Nat} (pre : List (UpS N)) (x : UpS N) : lastV (pre ++ [x]) = x.1 := by simp [lastV]

set_option maxHeartbeats 1000000 in
theorem iUpTo_any (n : Nat) (w : World) :
    Calls Try.prog 133 #[.int .i64 n] w fun e w' => e = .returned (.func (.func 159) #[] #[.pointer (some ⟨w.heap.size, 0, none⟩)]) ∧ w' = w.alloc (.cells #[.int .i64 n] 3) := by
  go_enter Try.func133, Try.ntmps133
  go_wp2
  go_ret
  exact ⟨rfl, rfl⟩

set_option maxRecDepth 100000 in
set_option maxHeartbeats 4000000 in
theorem upTo1_in (n : Nat) (hn : 1 ≤ n) (l Bn n₀ N : Nat) (hN : N ≤ 1000) (J Jx : List (UpS N) → World → Prop) (W : World) (_hn0 : n₀ ≤ W.heap.size)
    (hY : ∀ pre x W1, J pre W1 → pre.length < N → YieldAt Fence.wide (n - 1) Try.prog l (encU x) W1 fun e W' =>
      (e = .returned (.bool true) ∧ J (pre ++ [x]) W' ∧ KpB n₀ Bn W1 W') ∨ (e = .returned (.bool false) ∧ Jx (pre ++ [x]) W'))
    (hBn : W.cell? ⟨Bn, 0, none⟩ = some (.int .i64 N)) (hBnl : Bn < W.heap.size) (h0 : J [] W) :
    CallsIn Fence.wide n Try.prog 159 #[.func (.yield l) #[] #[], .pointer (some ⟨Bn, 0, none⟩)] W fun e W' => (∃ u, e = .returned u) ∧
      ((∃ ys : List (UpS N), ys.map Subtype.val = upL N ∧ J ys W') ∨ (∃ pre : List (UpS N), (∃ k, k ≤ N ∧ pre.map Subtype.val = upL k) ∧ Jx pre W')) := by
  have HY := hid hY
  clear hY
  refine callsIn_of_wp Try.func159 rfl trivial ?_ rfl
  simp only [Try.ntmps159, List.size_toArray, List.length_cons, List.length_nil, Nat.reduceAdd, Nat.reduceSub, Array.replicate_succ, Array.replicate_zero, List.push_toArray, List.append_toArray, List.nil_append, List.cons_append]
  gi_wp2
  gi_loopw [3] (fun i wr => ∃ (k K : Nat) (pre : List (UpS N)), k ≤ N ∧ i = .int .i64 K ∧ Hid (K = k + 1) ∧ Hid (pre.map Subtype.val = upL k ∧ J pre wr) ∧ Hid (KpB n₀ Bn W wr)) (fun i _ => N + 1 - (intOf i).toNat)
  case atStart => exact ⟨0, 1, [], Nat.zero_le _, rfl, hid rfl, hid ⟨rfl, h0⟩, hid ⟨Below.refl _ _, rfl⟩⟩
  case round =>
    obtain ⟨k, K, pre, hk, rfl, hK, hJs, hnx⟩ := hrel
    have hcn := (World.cell?_of_block (w := W) (a := ⟨Bn, 0, none⟩) hnx.out.2).trans hBn
    have hBnr : Bn < wr.heap.size := by have := hnx.out.1.size; omega
    by_cases hlt : k < N
    · have hKN : (K : Int) ≤ (N : Int) := by have := hK.out; omega
      have hK9 : K ≤ 1001 := by have := hK.out; omega
      obtain ⟨fn, tmps, assign, body, hy, hR⟩ := HY.out pre ⟨K, by have := hK.out; omega, by have := hK.out; omega⟩ wr hJs.out.2 (by have h := congrArg List.length hJs.out.1; rw [List.length_map, upL_len] at h; omega)
      dsimp only [encU] at hy
      have hR' := hid hR
      clear hR
      gi_wp2
      refine hR'.out.mono ?_
      rintro e W3 (⟨rfl, hJ3, hk3⟩ | ⟨rfl, hJx3⟩)
      · gi_wp2
        go_roundw
        case rel => exact ⟨k + 1, K + 1, _, by omega, by go_num, hid (by rw [hK.out]), hid ⟨by rw [List.map_append, hJs.out.1, upL_succ]; exact congrArg (fun z => upL k ++ [z]) hK.out, hJ3⟩, hid (kpB_t hnx.out hk3)⟩
        case measure => have := hK.out; simp [intOf]; omega
      · gi_wp2
        go_end0
        exact ⟨⟨_, rfl⟩, .inr ⟨_, ⟨k + 1, by omega, (by rw [List.map_append, hJs.out.1, upL_succ]; exact congrArg (fun z => upL k ++ [z]) hK.out)⟩, hJx3⟩⟩
    · have hkN := hid (show k = N by omega)
      have hKN : ¬ (K : Int) ≤ (N : Int) := by have := hK.out; omega
      gi_wp2
      refine ⟨fun _ h => (by cases h), ?_⟩
      gi_wp2
      all_goals
        go_end0
        exact ⟨⟨_, rfl⟩, .inl ⟨_, by rw [hJs.out.1, hkN.out], hJs.out.2⟩⟩

theorem upTo_stops (n : Nat) (hn : 1 ≤ n) (Bn n₀ N : Nat) (hN : N ≤ 1000) (w : World) (hn0 : n₀ ≤ w.heap.size) (hBn : w.cell? ⟨Bn, 0, none⟩ = some (.int .i64 N)) (hBnl : Bn < w.heap.size) :
    SeqStopsK Fence.wide n Try.prog 159 #[.pointer (some ⟨Bn, 0, none⟩)] (encU (N := N)) (KpB n₀ Bn) (fun ys => ys.map Subtype.val = upL N) (fun pre => ∃ k, k ≤ N ∧ pre.map Subtype.val = upL k) N w :=
  fun l J Jx W hW _ _ hY h0 => upTo1_in n hn l Bn n₀ N hN J Jx W (Nat.le_trans hn0 hW.size) hY ((hW.cell (p := ⟨Bn, 0, none⟩) hBnl).trans hBn) (Nat.lt_of_lt_of_le hBnl hW.size) h0

theorem boxed_onB {W W' : World} {b : Nat} {t : TypeId} {v : Value} (h : Boxed W b t v) (hb : Below W.heap.size W W') : Boxed W' b t v := (hb.block b (Array.getElem?_eq_some_iff.1 h).1).trans h
theorem boxedAt (w : World) (g : Nat) (t : TypeId) (v : Value) (hg : g = w.heap.size) : Boxed (w.alloc (.cells #[v] t)) g t v := by subst hg; exact Boxed.new w t v
/-- One result, read out of its cell. -/
theorem results_oneI {fn : Func} {p : Tmp} (h : fn.results = #[.cell p 2]) (tmps : Array Value) (w : World) (g1 : Nat) (x : Int) (h1 : tmps.getD p undef = .pointer (some ⟨g1, 0, none⟩)) (hx : Boxed w g1 2 (.int .i64 x)) :
    (results fn tmps).run Try.prog w = .ok (.int .i64 x) w := by
  have e1 : tmps[p]?.getD undef = .pointer (some ⟨g1, 0, none⟩) := by simpa using h1
  have ha : (isAgg 2).run Try.prog w = .ok false w := by
    unfold isAgg
    rw [Sem.run_bind, run_underlying Try.underlying2 w]
    rfl
  have c1 := hx.cell
  simp [results, h, e1, asAddr, loadVar, Sem.run_bind, ha, c1, Result.andThen]

set_option maxRecDepth 100000 in
set_option maxHeartbeats 8000000 in
theorem iFirst_any (N Bn Bp X : Nat) (p : Nat → Bool) (w : World) (hN : N ≤ 1000) (hBn : w.cell? ⟨Bn, 0, none⟩ = some (.int .i64 N)) (hX1 : 1 ≤ X ∧ X ≤ N) (hX2 : p X = true) (hX3 : ∀ y, 1 ≤ y → y < X → p y = false)
    (hP : ∀ x, 1 ≤ x → x ≤ N → ∀ W, Below w.heap.size w W → Calls Try.prog 134 #[.int .i64 x, .pointer (some ⟨Bp, 0, none⟩)] W fun e W' => e = .returned (.bool (p x)) ∧ Below W.heap.size W W') :
    Calls Try.prog 132 #[.func (.func 159) #[] #[.pointer (some ⟨Bn, 0, none⟩)], .func (.func 134) #[] #[.pointer (some ⟨Bp, 0, none⟩)]] w fun e w' => e = .returned (.int .i64 X) ∧ Below w.heap.size w w' := by
  have hBnl := World.block_lt_of_cell? w _ hBn
  dsimp only at hBnl
  have HP := hid hP
  have HX := hid (And.intro hX1 (And.intro hX2 hX3))
  clear hP hX1 hX2 hX3
  refine (callsIn_wide (n := 6)).1 ?_
  refine callsIn_of_wp_marks Try.func132 rfl trivial ?_ rfl
  simp only [Try.ntmps132, List.size_toArray, List.length_cons, List.length_nil, Nat.reduceAdd, Nat.reduceSub, Array.replicate_succ, Array.replicate_zero, List.push_toArray, List.append_toArray, List.nil_append, List.cons_append]
  gi_wp2
  obtain ⟨W0, hW0⟩ : ∃ W0 : World, W0 = (w.alloc (.cells #[.func (.func 134) #[] #[.pointer (some ⟨Bp, 0, none⟩)]] 137)).alloc (.cells #[.int .i64 0] 2) := ⟨_, rfl⟩
  rw [← hW0]
  have hB0 : Below w.heap.size w W0 := by rw [hW0]; exact bfrom (on_alloc _ _) (on_alloc _ _)
  have hsz : W0.heap.size = w.heap.size + 2 := by rw [hW0]; simp
  have b1 : Boxed W0 w.heap.size 137 (.func (.func 134) #[] #[.pointer (some ⟨Bp, 0, none⟩)]) := by rw [hW0]; exact (boxedAt _ _ _ _ rfl).alloc _
  have b2 : Boxed W0 (w.heap.size + 1) 2 (.int .i64 0) := by rw [hW0]; exact boxedAt _ _ _ _ (by simp)
  clear hW0
  refine wpIn_rangeFunc_ownG (n := 6) rfl (by omega) (gf := 159) (lb := #[.pointer (some ⟨Bn, 0, none⟩)]) rfl trivial (enters_of Try.func159 (by kernel_rfl) rfl)
    (upTo_stops 5 (by omega) Bn w.heap.size N hN W0 (by omega) ((hB0.cell (p := ⟨Bn, 0, none⟩) hBnl).trans hBn) (by omega)) kpB_t (kpB_b (by omega) (by omega)) (Below.refl _ _) (fun _ => rfl)
    (fun (pre : List (UpS N)) W => (∀ x, x ∈ pre → p x.1 = false) ∧ Boxed W w.heap.size 137 (.func (.func 134) #[] #[.pointer (some ⟨Bp, 0, none⟩)]) ∧ Boxed W (w.heap.size + 1) 2 (.int .i64 0) ∧ Below w.heap.size w W)
    (fun c' pre W => (c' = .ret ∧ pre ≠ [] ∧ p (lastV pre) = true ∧ ∀ y, y ∈ pre.dropLast → p y.1 = false) ∧ Boxed W (w.heap.size + 1) 2 (.int .i64 (lastV pre)) ∧ Below w.heap.size w W)
    ?hI ?hIx ⟨fun x hx => by simp at hx, b1, b2, hB0⟩
    (fun x => { tmps := #[.func (.func 159) #[] #[.pointer (some ⟨Bn, 0, none⟩)], .func (.func 134) #[] #[.pointer (some ⟨Bp, 0, none⟩)], undef, .pointer (some ⟨w.heap.size, 0, none⟩), .pointer (some ⟨w.heap.size + 1, 0, none⟩), .int .i64 (x.1 : Int), undef, .func (.func 159) #[] #[.pointer (some ⟨Bn, 0, none⟩)], .int .i64 (x.1 : Int), undef, undef, undef, undef, undef], defers := [] }) ?assign ?body ?done ?stop
  case hI => exact OwnFrom.and (ownFrom_pure _ _) (OwnFrom.and (Own.from (boxed_own _ _ (fun _ => _)) _) (OwnFrom.and (Own.from (boxed_own _ _ (fun _ => _)) _) (ownFrom_below (Nat.le_refl _) (by omega))))
  case hIx => exact fun c' => OwnFrom.and (ownFrom_pure _ (fun pre => c' = .ret ∧ pre ≠ [] ∧ p (lastV pre) = true ∧ ∀ y, y ∈ pre.dropLast → p y.1 = false)) (OwnFrom.and (Own.from (boxed_own _ _ (fun pre => .int .i64 (lastV pre))) _) (ownFrom_below (Nat.le_refl _) (by omega)))
  case assign =>
    intro l x W K hK
    gi_wp2
    exact hK
  case body =>
    rintro l pre ⟨x, hx1, hx2⟩ W ⟨hp, h1, h2, hB⟩ hlt
    have HPre := hid hp
    have hc1 := h1.cell
    have hc2 := h2.cell
    have hf2 := h2.frozen
    have hl1 := h1.lt
    have hl2 := h2.lt
    have HC := hid (HP.out x hx1 hx2 W hB)
    have HB := hid hB
    have H1 := hid h1
    have H2 := hid h2
    clear hp h1 h2 hB
    cases hpx : p x
    · gi_wp2_with (refine ⟨trivial, ?_⟩; gi_at_call 134; refine (callsIn_wide.2 HC.out).mono ?_; rw [hpx]; rintro e W5 ⟨rfl, hb5⟩)
      refine ⟨⟨hb5.size, fun k o _ hk _ => (hb5.block k (Array.getElem?_eq_some_iff.1 hk).1).trans hk⟩, kpB_on hb5 HB.out.size (by have := HB.out.size; omega), fun y hy => ?_, boxed_onB H1.out hb5, boxed_onB H2.out hb5, bfrom HB.out hb5⟩
      rcases List.mem_append.1 hy with hy | hy
      · exact HPre.out y hy
      · obtain rfl : y = ⟨x, _⟩ := by simpa using hy
        exact hpx
    · gi_wp2_with (refine ⟨trivial, ?_⟩; gi_at_call 134; refine (callsIn_wide.2 HC.out).mono ?_; rw [hpx]; rintro e W5 ⟨rfl, hb5⟩; have hc5 := (boxed_onB H2.out hb5).cell; have hf5 := (boxed_onB H2.out hb5).frozen; have hl5 := (boxed_onB H2.out hb5).lt; have HB5 := hid hb5; clear hb5)
      refine ⟨KeepsFrom.trans (Y := W5) ⟨HB5.out.size, fun k o _ hk _ => (HB5.out.block k (Array.getElem?_eq_some_iff.1 hk).1).trans hk⟩ ((KeepsOthers.setCell W5 _ _).from _), ⟨rfl, by simp, by rw [lastV_app]; exact hpx, fun y hy => HPre.out y (by rw [List.dropLast_concat] at hy; exact hy)⟩, ?_, ?_⟩
      · rw [lastV_app]
        exact Boxed.set _ (boxed_onB H2.out HB5.out)
      · exact (bfrom HB.out HB5.out).setCell (p := ⟨w.heap.size + 1, 0, none⟩) (by show w.heap.size ≤ w.heap.size + 1; omega) _
  case done =>
    rintro D ys W hD hys ⟨hp, _⟩ hK
    exfalso
    have hm : X ∈ ys.map Subtype.val := by rw [hys]; exact upL_mem.2 HX.out.1
    obtain ⟨x, hx, hxe⟩ := List.mem_map.1 hm
    have := hp x hx
    rw [hxe, HX.out.2.1] at this
    cases this
  case stop =>
    rintro D c' pre W hD ⟨k, hk, hpre⟩ ⟨⟨rfl, hne, hl1, hl2⟩, h3, hB⟩ hK
    have hkX : lastV pre = X := by
      cases k with
      | zero =>
        have : pre = [] := by
          have h := congrArg List.length hpre
          rw [List.length_map, upL_len] at h
          exact List.eq_nil_of_length_eq_zero h
        exact absurd this hne
      | succ k =>
        rw [upL_succ] at hpre
        have hlv : lastV pre = k + 1 := by unfold lastV; rw [hpre]; simp
        have hdl : pre.dropLast.map Subtype.val = upL k := by rw [List.map_dropLast, hpre]; simp
        rw [hlv] at hl1 ⊢
        rcases Nat.lt_trichotomy (k + 1) X with h | h | h
        · rw [HX.out.2.2 (k + 1) (by omega) h] at hl1
          cases hl1
        · exact h
        · have hm : X ∈ pre.dropLast.map Subtype.val := by rw [hdl]; exact upL_mem.2 ⟨HX.out.1.1, by omega⟩
          obtain ⟨x, hx, hxe⟩ := List.mem_map.1 hm
          have h2 := hl2 x hx
          rw [hxe, HX.out.2.1] at h2
          cases h2
    gi_wp2
    refine ⟨by simp, .inl ⟨_, _, rfl, run_takeDeferred hK, ?_⟩⟩
    refine ⟨_, results_oneI rfl _ _ (w.heap.size + 1) _ rfl (h3.kept (grownBy_putObj' _ D (.deferred none)) (fun e => by have := Option.some.inj e; omega)), by rw [hkX], hB.trans (belowK_b (w := w) (Nat.le_refl _) W D _ _ (by omega) hK rfl rfl)⟩

end Go.Proofs.Ytonlpihbpbnnmaa
