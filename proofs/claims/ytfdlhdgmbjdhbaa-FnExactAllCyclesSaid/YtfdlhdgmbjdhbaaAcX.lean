/- All cycles in the model: l07All. -/
import Derived.Test.YtfdlhdgmbjdhbaaAcW
namespace Go.Proofs.Ytfdlhdgmbjdhbaa
open Go.RowKit Go.Lib

theorem infoBoolA : (Try.prog.info? 4).map (fun i => (i.zero, i.size, i.bytes)) = some (some (.bool false), 1, 1) := by kernel_rfl
/-- What lies there while the edges are gone through. -/
structure StX (w : World) (N b off n c D : Nat) (es : List (Int × Int)) (k : Nat) (q : Option Addr) (cap : Nat) (ps : List AcP) (W : World) : Prop where
  row : W.ownsRow D 41 1 (.slice q ps.length cap) ps.length (ps.map acV)
  con : ps.map (fun p => p.2.2) = acL es N k
  rows : AcAt W D ps
  bx : W.heap[w.heap.size]? = some (.cells #[.int .i64 (N : Int), .slice (some ⟨b, off, none⟩) n c] 28 (0, 0))
  bw : Below w.heap.size w W
theorem StX.on {w : World} {N b off n c D : Nat} {es : List (Int × Int)} {k : Nat} {q : Option Addr} {cap : Nat} {ps : List AcP} {W W' : World} (h : StX w N b off n c D es k q cap ps W) (hb : Below W.heap.size W W') : StX w N b off n c D es k q cap ps W' :=
  ⟨rowN_same h.row (fun i _ _ _ _ hc => hb.block i (Array.getElem?_eq_some_iff.1 hc).1), h.con, h.rows.same (fun i _ _ _ hc => hb.block i (Array.getElem?_eq_some_iff.1 hc).1), (hb.block _ (Array.getElem?_eq_some_iff.1 h.bx).1).trans h.bx, bfrom h.bw hb⟩
/-- What lies there at the end of a round. -/
theorem stX_yes {w W w9 w10 : World} {N b off n c D P cap c9 B6 : Nat} {es : List (Int × Int)} {k : Nat} {q q9 : Option Addr} {ps ps6 : List AcP} {FF : List (List Int)} (h : StX w N b off n c D es k q cap ps W) (hP : ps.length = P) (hm6 : ps6.map (fun p => p.2.2) = FF) (hF : acL es N (k + 1) = acL es N k ++ FF) (hB : Below W.heap.size W w9)
    (ha6 : AcAt w9 B6 ps6) (hB6 : W.heap.size ≤ B6) (hg10 : w9.grownBy w10 (Value.slice q P cap).ownBlock) (hr10 : w10.ownsRow D 41 1 (.slice q9 (P + ps6.length) c9) (P + ps6.length) ((ps ++ ps6).map acV)) (hD : w.heap.size < D) (hDW : D ≤ W.heap.size) : StX w N b off n c D es (k + 1) q9 c9 (ps ++ ps6) w10 := by
  have h9 := h.on hB
  have hr9 := h9.row
  rw [hP] at hr9
  have hlow : ∀ i, i < D → some i ≠ (Value.slice q P cap).ownBlock := fun i hi e => by have := (hr9.lt i e.symm).1; omega
  refine ⟨by rw [List.length_append, hP]; exact hr10, by rw [List.map_append, h.con, hm6, hF], ?_, ?_, ?_⟩
  · exact acI_app hr9 h9.rows ha6 (by omega) (fun p hp => Nat.lt_of_lt_of_le (h.rows.own p hp).2.lt hB6) hg10
  · exact (hg10.block _ (Array.getElem?_eq_some_iff.1 h9.bx).1 (hlow _ hD)).trans h9.bx
  · exact h9.bw.grown hg10 h9.bw.size (fun j hj => by have := (hr9.lt j hj).1; omega)
theorem acL_fewS {N k : Nat} {es : List (Int × Int)} (g : IsG N es) (hk : k ≤ es.length) : (acL es N k).length ≤ 104603532030 := by
  have h := acL_le (acI_three g) N k
  have hN : N ≤ 20 := by have := g.1.1.2.1; omega
  have h2 : (3 : Nat) ^ N ≤ 3 ^ 20 := Nat.pow_le_pow_right (by omega) hN
  have h3 : k ≤ 30 := by have := isG_len g; omega
  have h4 : k * 3 ^ N ≤ 30 * 3 ^ 20 := Nat.mul_le_mul h3 h2
  have h5 : (30 : Nat) * 3 ^ 20 ≤ 104603532030 := by decide
  omega
/-- Rows behind rows, as one step of a region that draws: more of them. -/
theorem step_append_many {ops : Array Oper} {o : Oper} {a : Act} {w : World} {K : Act → World → Prop} {Q : Exit → Act → World → Prop} {E : Prop}
    (hg : o.guard = none) (s x : Operand) (hop : o.op = Op.call { callee := Callee.builtin Builtin.append, args := #[s, x], argTypes := #[35, 35] })
    {B B2 k1 c1 k2 c2 : Nat} {q1 q2 : Option Addr} {ps qs : List AcP} (hs : a.eval s = .slice q1 k1 c1) (hO : w.ownsRow B 41 1 (.slice q1 k1 c1) k1 (ps.map acV)) (hx : a.eval x = .slice q2 k2 c2) (hX : w.ownsRow B2 41 1 (.slice q2 k2 c2) k2 (qs.map acV))
    (hb : B ≤ w.heap.size) (h1 : k1 ≤ 200000000000) (h2 : k2 ≤ 200000000000)
    (hK : ∀ q3 c3 w', w'.ownsRow B 41 1 (.slice q3 (k1 + k2) c3) (k1 + k2) ((ps ++ qs).map acV) → w.grownBy w' (Value.slice q1 k1 c1).ownBlock → K (a.put o.dst (.slice q3 (k1 + k2) c3)) w') :
    if Region.wanted o (yielded ops a.tmps) = true then Oper.wp Try.prog o a w K Q else E := by
  have hw : Region.wanted o (yielded ops a.tmps) = true := by simp [Region.wanted, hg]
  obtain ⟨i, hi, hz0, hz1, hz2⟩ := info_parts infoSlN
  rw [if_pos hw]
  by_cases hk : k2 = 0
  · subst hk
    have hq : qs = [] := by
      have h := hX.1
      rw [List.length_map] at h
      exact List.eq_nil_of_length_eq_zero (by omega)
    subst hq
    rcases (row_capA hX).2 with rfl | ⟨g2, rfl⟩
    · have hrun := run_append_nilA w o.type q1 k1 c1 c2 (row_capA hO).1
      unfold Oper.wp
      simp [execOp, hop, resolve, invoke, builtin, hs, hx, hrun, Result.andThen]
      exact hK q1 c1 w (by rw [List.append_nil]; exact hO) ⟨rfl, rfl, rfl, Nat.le_refl _, fun _ _ _ => rfl⟩
    · obtain ⟨v', w', hrun, r1, r2, _⟩ := run_append_own (P := Try.prog) w B 35 o.type 41 i _ 1 24 Try.underlying35 hi hz0 hz1 hz2 rfl (by decide) (.slice q1 k1 c1) k1 (ps.map acV) hO ⟨g2, 0, none⟩ 0 c2 [] rfl (fun j u h => by simp at h) (fun u hu => by cases hu) (by unfold maxLen; omega) (by omega) hb
      obtain ⟨q3, c3, rfl⟩ := row_formN r1
      unfold Oper.wp
      simp [execOp, hop, resolve, invoke, builtin, hs, hx, hrun, Result.andThen]
      exact hK q3 c3 w' (by rw [List.append_nil] at r1 ⊢; exact r1) r2
  · obtain ⟨g2, rfl, _, _, hc⟩ := row_cellA hX (by omega)
    obtain ⟨v', w', hrun, r1, r2, _⟩ := run_append_own (P := Try.prog) w B 35 o.type 41 i _ 1 24 Try.underlying35 hi hz0 hz1 hz2 rfl (by decide) (.slice q1 k1 c1) k1 (ps.map acV) hO ⟨g2, 0, none⟩ k2 c2 (qs.map acV) hX.1 hc (fun u hu => by obtain ⟨p, _, rfl⟩ := List.mem_map.1 hu; rfl) (by unfold maxLen; omega) (by omega) hb
    obtain ⟨q3, c3, rfl⟩ := row_formN r1
    unfold Oper.wp
    simp [execOp, hop, resolve, invoke, builtin, hs, hx, hrun, Result.andThen]
    exact hK q3 c3 w' (by rw [List.map_append]; exact r1) r2

set_option maxRecDepth 100000 in
set_option maxHeartbeats 16000000 in
theorem sAll_any (N b off n c : Nat) (es : List (Int × Int)) (w : World) (hn : es.length = n) (hr : ReadsE w b off es) (g : IsG N es) :
    Calls Try.prog 44 #[.agg #[.int .i64 N, .slice (some ⟨b, off, none⟩) n c]] w fun e w' => ∃ (q : Option Addr) (cap : Nat) (ps : List AcP), e = .returned (.slice q ps.length cap) ∧ w'.ownsRow w.heap.size 41 1 (.slice q ps.length cap) ps.length (ps.map acV) ∧ ps.map (fun p => p.2.2) = acL es N n ∧ AcAt w' w.heap.size ps ∧ Below w.heap.size w w' := by
  have hn30 : n ≤ 30 := by have := isG_len g; omega
  have hN20 : N ≤ 20 := by have := g.1.1.2.1; omega
  have hbl : b < w.heap.size := reads_lt hr (by have := g.1.1.2.2.2; have := g.1.1.1; omega)
  have Hn := hid hn
  have Hr := hid hr
  have G := hid g
  obtain ⟨i0, hi, hz0, hz1, hz2⟩ := info_parts infoBoolA
  have Hi := hid hi
  clear hn hr g hi
  go_enter Try.func44, Try.ntmps44
  go_wp2_with fail
  have HS0 := hid (show StX w N b off n c (w.heap.size + 1) es 0 (some ⟨w.heap.size + 1, 0, none⟩) 0 [] ((w.alloc (.cells #[.int .i64 (N : Int), .slice (some ⟨b, off, none⟩) n c] 28)).alloc (.cells #[] 41)) from by
    refine ⟨?_, rfl, AcAt.nil _ _, ((on_alloc _ _).block _ (by simp)).trans (heap_alloc_new w _), bfrom (on_alloc _ _) (on_alloc _ _)⟩
    have h := World.ownsRow_made (base := w.heap.size + 1) (e := 41) (size := 1) (w.alloc (.cells #[.int .i64 (N : Int), .slice (some ⟨b, off, none⟩) n c] 28)) #[] 0 (by simp) (Nat.zero_le _) rfl
    rw [World.size_alloc] at h
    exact h)
  go_loopw [3, 4] (fun u i wr => ∃ (k P cap : Nat) (q : Option Addr) (ps : List AcP), k ≤ n ∧ Hid (ps.length = P ∧ P ≤ 104603532030) ∧ u = .slice q P cap ∧ i = .int .i64 k ∧ Hid (StX w N b off n c (w.heap.size + 1) es k q cap ps wr)) (fun _ i _ => n - (intOf i).toNat)
  case atStart => exact ⟨0, 0, 0, _, [], Nat.zero_le _, hid ⟨rfl, by omega⟩, rfl, rfl, HS0⟩
  case round =>
    clear HS0
    obtain ⟨k, P, cap, q, ps, hk, hP, rfl, rfl, hS⟩ := hrel
    have HPs := hid hP.out
    obtain ⟨wo, rfl⟩ : ∃ wo : World, wo = wr := ⟨_, rfl⟩
    have hx := (cell_of_row wo w.heap.size 0 _ _ _ hS.out.bx).trans (rfl : _ = some (Value.int .i64 (N : Int)))
    have hy := (cell_of_row wo w.heap.size 1 _ _ _ hS.out.bx).trans (rfl : _ = some (Value.slice (some ⟨b, off, none⟩) n c))
    have hlx := (Array.getElem?_eq_some_iff.1 hS.out.bx).1
    by_cases hlt : k < n
    · have hlt' : (k : Int) < (n : Int) := by omega
      have hke : k < es.length := by rw [Hn.out]; exact hlt
      have hok := G.out.1.2 k hke
      obtain ⟨X, hX1⟩ : ∃ X, eA es k = X := ⟨_, rfl⟩
      obtain ⟨Y, hY1⟩ : ∃ Y, eB es k = Y := ⟨_, rfl⟩
      have HXY := hid (And.intro hX1 hY1)
      have HYr := hid (show 0 ≤ Y ∧ Y < (N : Int) by rw [← hY1]; exact ⟨hok.2.2.1, hok.2.2.2.1⟩)
      have hY0 : 0 ≤ Y := HYr.out.1
      have hYN : Y < (N : Int) := HYr.out.2
      obtain ⟨U, hU⟩ : ∃ U, Y.toNat = U := ⟨_, rfl⟩
      have HU := hid (show U < N ∧ Y = (U : Int) from ⟨by omega, by omega⟩)
      have HKl := hid hlt
      clear hX1 hY1 hok
      go_wp2_with (at_make; refine wpList_make_full _ rfl _ _ 81 rfl wo.heap.size 4 i0 (.bool false) 1 Try.underlying81 Hi.out hz0 hz1 _ _ _ _ N rfl rfl rfl rfl (by rw [hz2]; omega) (by unfold maxLen; omega) (Nat.le_refl _) ?_; intro w1 hown hgrow; have Ho := hid (OwnB.made hown); have Hb := hid ((Below.refl wo.heap.size wo).grown hgrow (Nat.le_refl _) (fun k e => by cases e)); have HS1 := hid (hS.out.on Hb.out); have hx := (cell_of_row w1 w.heap.size 0 _ _ _ HS1.out.bx).trans (rfl : _ = some (Value.int .i64 (N : Int))); have hy := (cell_of_row w1 w.heap.size 1 _ _ _ HS1.out.bx).trans (rfl : _ = some (Value.slice (some ⟨b, off, none⟩) n c)); have hlx := (Array.getElem?_eq_some_iff.1 HS1.out.bx).1; have hcY := (Hr.out.on HS1.out.bw k hke).2; rw [HXY.out.2] at hcY; have hbw := World.block_lt_of_cell? w1 _ hcY; dsimp only at hbw; have hcm := Ho.out.cell (i := U) (by rw [List.length_replicate]; exact HU.out.1); have hfm := Ho.out.free U; have hgml := Ho.out.lt; clear hown hgrow)
      obtain ⟨W6, hW6⟩ : ∃ W6, W6 = w1.setCell ⟨wo.heap.size, U, none⟩ (.bool true) := ⟨_, rfl⟩
      have HB6 := hid (show Below wo.heap.size wo W6 by rw [hW6]; exact Hb.out.setCell (p := ⟨wo.heap.size, U, none⟩) (Nat.le_refl _) _)
      have HS6 := hid (hS.out.on HB6.out)
      have HM6 := hid (show OwnB W6 wo.heap.size N ((List.replicate N false).set U true) by rw [hW6]; exact Ho.out.set (by rw [List.length_replicate]; exact HU.out.1) true)
      have hwz : w.heap.size + 1 ≤ wo.heap.size := (Array.getElem?_eq_some_iff.1 hS.out.bx).1
      have hWz : wo.heap.size < W6.heap.size := HM6.out.lt
      rw [← hW6]
      clear hW6 hx hy hlx hcY hbw hcm hfm hgml
      have hSD : W6.drew.heap[w.heap.size]? = some (.cells #[.int .i64 (N : Int), .slice (some ⟨b, off, none⟩) n c] 28 (0, 0)) ∧ ReadsE W6.drew b off es := ⟨HS6.out.bx, Hr.out.on HS6.out.bw.drew⟩
      refine wp_region_held_drew (S := fun w' => w'.heap[w.heap.size]? = some (.cells #[.int .i64 (N : Int), .slice (some ⟨b, off, none⟩) n c] 28 (0, 0)) ∧ ReadsE w' b off es) (by kernel_rfl) hSD (fun hHeld => ?_)
      refine wpAnyH_take (i := 0) (v := .slice q P cap) rfl (by kernel_rfl) (by kernel_rfl) (by kernel_rfl) (fun _ _ _ h => h) (Or.inl ⟨by rfl, fun w hSw => ?_⟩) (by assumption) ?_
      · go_simp
      simp only [Act.put, List.getElem_toArray, List.getElem_cons_zero, List.setIfInBounds_toArray, List.set_cons_zero, List.set_cons_succ]
      refine wpAnyH_take (i := 1) (v := .agg #[.int .i64 (N : Int), .slice (some ⟨b, off, none⟩) n c]) rfl (by kernel_rfl) (by kernel_rfl) (by kernel_rfl) (fun _ _ _ h => h) (Or.inl ⟨by rfl, fun w hSw => ?_⟩) (by assumption) ?_
      · have h0 := (cell_of_row w _ 0 _ _ _ hSw.1).trans (rfl : _ = some (Value.int .i64 (N : Int)))
        have h1 := (cell_of_row w _ 1 _ _ _ hSw.1).trans (rfl : _ = some (Value.slice (some ⟨b, off, none⟩) n c))
        go_simp
      simp only [Act.put, List.getElem_toArray, List.getElem_cons_zero, List.getElem_cons_succ, List.setIfInBounds_toArray, List.set_cons_zero, List.set_cons_succ]
      refine wpAnyH_take (i := 2) (v := .int .i64 (k : Int)) rfl (by kernel_rfl) (by kernel_rfl) (by kernel_rfl) (fun _ _ _ h => h) (Or.inl ⟨by rfl, fun w hSw => ?_⟩) (by assumption) ?_
      · go_simp
      simp only [Act.put, List.getElem_toArray, List.getElem_cons_zero, List.getElem_cons_succ, List.setIfInBounds_toArray, List.set_cons_zero, List.set_cons_succ]
      refine wpAnyH_take (i := 4) (v := .pointer (some ⟨w.heap.size, 1, none⟩)) rfl (by kernel_rfl) (by kernel_rfl) (by kernel_rfl) (fun _ _ _ h => h) (Or.inl ⟨by rfl, fun w hSw => ?_⟩) (by assumption) ?_
      · go_simp
      simp only [Act.put, List.getElem_toArray, List.getElem_cons_zero, List.getElem_cons_succ, List.setIfInBounds_toArray, List.set_cons_zero, List.set_cons_succ]
      refine wpAnyH_take (i := 5) (v := .slice (some ⟨b, off, none⟩) n c) rfl (by kernel_rfl) (by kernel_rfl) (by kernel_rfl) (fun _ _ _ h => h) (Or.inl ⟨by rfl, fun w hSw => ?_⟩) (by assumption) ?_
      · have h1 := (cell_of_row w _ 1 _ _ _ hSw.1).trans (rfl : _ = some (Value.slice (some ⟨b, off, none⟩) n c))
        go_simp
      simp only [Act.put, List.getElem_toArray, List.getElem_cons_zero, List.getElem_cons_succ, List.setIfInBounds_toArray, List.set_cons_zero, List.set_cons_succ]
      refine wpAnyH_take (i := 6) (v := .int .i64 (k : Int)) rfl (by kernel_rfl) (by kernel_rfl) (by kernel_rfl) (fun _ _ _ h => h) (Or.inl ⟨by rfl, fun w hSw => ?_⟩) (by assumption) ?_
      · go_simp
      simp only [Act.put, List.getElem_toArray, List.getElem_cons_zero, List.getElem_cons_succ, List.setIfInBounds_toArray, List.set_cons_zero, List.set_cons_succ]
      refine wpAnyH_take (i := 7) (v := .pointer (some ⟨b, off + k * 2, none⟩)) rfl (by kernel_rfl) (by kernel_rfl) (by kernel_rfl) (fun _ _ _ h => h) (Or.inl ⟨by rfl, fun w hSw => ?_⟩) (by assumption) ?_
      · go_simp
      simp only [Act.put, List.getElem_toArray, List.getElem_cons_zero, List.getElem_cons_succ, List.setIfInBounds_toArray, List.set_cons_zero, List.set_cons_succ]
      refine wpAnyH_take (i := 8) (v := .pointer (some ⟨b, off + k * 2 + 1, none⟩)) rfl (by kernel_rfl) (by kernel_rfl) (by kernel_rfl) (fun _ _ _ h => h) (Or.inl ⟨by rfl, fun w hSw => ?_⟩) (by assumption) ?_
      · go_simp
      simp only [Act.put, List.getElem_toArray, List.getElem_cons_zero, List.getElem_cons_succ, List.setIfInBounds_toArray, List.set_cons_zero, List.set_cons_succ]
      refine wpAnyH_take (i := 9) (v := .int .i64 Y) rfl (by kernel_rfl) (by kernel_rfl) (by kernel_rfl) (fun _ _ _ h => h) (Or.inl ⟨by rfl, fun w hSw => ?_⟩) (by assumption) ?_
      · have h0 := (hSw.2 k hke).2
        rw [HXY.out.2] at h0
        go_simp
      simp only [Act.put, List.getElem_toArray, List.getElem_cons_zero, List.getElem_cons_succ, List.setIfInBounds_toArray, List.set_cons_zero, List.set_cons_succ]
      refine wpAnyH_take (i := 10) (v := .pointer (some ⟨w.heap.size, 1, none⟩)) rfl (by kernel_rfl) (by kernel_rfl) (by kernel_rfl) (fun _ _ _ h => h) (Or.inl ⟨by rfl, fun w hSw => ?_⟩) (by assumption) ?_
      · go_simp
      simp only [Act.put, List.getElem_toArray, List.getElem_cons_zero, List.getElem_cons_succ, List.setIfInBounds_toArray, List.set_cons_zero, List.set_cons_succ]
      refine wpAnyH_take (i := 11) (v := .slice (some ⟨b, off, none⟩) n c) rfl (by kernel_rfl) (by kernel_rfl) (by kernel_rfl) (fun _ _ _ h => h) (Or.inl ⟨by rfl, fun w hSw => ?_⟩) (by assumption) ?_
      · have h1 := (cell_of_row w _ 1 _ _ _ hSw.1).trans (rfl : _ = some (Value.slice (some ⟨b, off, none⟩) n c))
        go_simp
      simp only [Act.put, List.getElem_toArray, List.getElem_cons_zero, List.getElem_cons_succ, List.setIfInBounds_toArray, List.set_cons_zero, List.set_cons_succ]
      refine wpAnyH_take (i := 12) (v := .int .i64 (k : Int)) rfl (by kernel_rfl) (by kernel_rfl) (by kernel_rfl) (fun _ _ _ h => h) (Or.inl ⟨by rfl, fun w hSw => ?_⟩) (by assumption) ?_
      · go_simp
      simp only [Act.put, List.getElem_toArray, List.getElem_cons_zero, List.getElem_cons_succ, List.setIfInBounds_toArray, List.set_cons_zero, List.set_cons_succ]
      refine wpAnyH_take (i := 13) (v := .pointer (some ⟨b, off + k * 2, none⟩)) rfl (by kernel_rfl) (by kernel_rfl) (by kernel_rfl) (fun _ _ _ h => h) (Or.inl ⟨by rfl, fun w hSw => ?_⟩) (by assumption) ?_
      · go_simp
      simp only [Act.put, List.getElem_toArray, List.getElem_cons_zero, List.getElem_cons_succ, List.setIfInBounds_toArray, List.set_cons_zero, List.set_cons_succ]
      refine wpAnyH_take (i := 14) (v := .pointer (some ⟨b, off + k * 2, none⟩)) rfl (by kernel_rfl) (by kernel_rfl) (by kernel_rfl) (fun _ _ _ h => h) (Or.inl ⟨by rfl, fun w hSw => ?_⟩) (by assumption) ?_
      · go_simp
      simp only [Act.put, List.getElem_toArray, List.getElem_cons_zero, List.getElem_cons_succ, List.setIfInBounds_toArray, List.set_cons_zero, List.set_cons_succ]
      refine wpAnyH_take (i := 15) (v := .int .i64 X) rfl (by kernel_rfl) (by kernel_rfl) (by kernel_rfl) (fun _ _ _ h => h) (Or.inl ⟨by rfl, fun w hSw => ?_⟩) (by assumption) ?_
      · have h0 := (hSw.2 k hke).1
        rw [HXY.out.1] at h0
        go_simp
      simp only [Act.put, List.getElem_toArray, List.getElem_cons_zero, List.getElem_cons_succ, List.setIfInBounds_toArray, List.set_cons_zero, List.set_cons_succ]
      refine wpAnyH_take (i := 16) (v := .slice (some ⟨wo.heap.size, 0, none⟩) N N) rfl (by kernel_rfl) (by kernel_rfl) (by kernel_rfl) (fun _ _ _ h => h) (Or.inl ⟨by rfl, fun w hSw => ?_⟩) (by assumption) ?_
      · go_simp
      simp only [Act.put, List.getElem_toArray, List.getElem_cons_zero, List.getElem_cons_succ, List.setIfInBounds_toArray, List.set_cons_zero, List.set_cons_succ]
      refine wpAnyH_ready (rs := [3]) (by kernel_rfl) (by simp) ?_
      refine AllReadyH.cons rfl (fun K hK => ?_) AllReadyH.nil
      go_simp
      have HB7 := hid (show Below W6.heap.size W6 (W6.drew.alloc (.cells #[.int .i64 k] 2)) from bfrom (Below.refl W6.heap.size W6).drew (on_alloc W6.drew _))
      have HS7 := hid (HS6.out.on HB7.out)
      refine hK.out _ _ ?_ (fun _ => ?_)
      · exact ⟨HS7.out.bx, Hr.out.on HS7.out.bw⟩
      clear hK K
      refine wpAnyH_ready (rs := [17]) (by kernel_rfl) (by simp) ?_
      refine AllReadyH.cons rfl (fun K hK => ?_) AllReadyH.nil
      have h := sAc_any N b off n c k es G.out Hn.out N [(k : Int)] Y [] ((List.replicate N false).set U true) W6.heap.size 0 1 wo.heap.size (W6.drew.alloc (.cells #[.int .i64 k] 2)) {
        rd := Hr.out.on HS7.out.bw
        bb := Nat.lt_of_lt_of_le hbl HS7.out.bw.size
        rl := reads_one W6.drew _ _ _ rfl
        bll := (Array.getElem?_eq_some_iff.1 (heap_alloc_new W6.drew (.cells #[.int .i64 k] 2))).1
        hm := HM6.out.on HB7.out
        nbl := by omega
        nb := by omega
        len := rfl
        cnt := by simp
        fst := rfl
        vr := HYr.out
        nd := by simp
        mr := fun x hx => by simp at hx
        sz := by rw [List.length_set, List.length_replicate]
        ar := fun i hi => by
          rw [eL_set (by rw [List.length_replicate]; exact HU.out.1)]
          have hY := HU.out.2
          by_cases e : i = U
          · rw [if_pos e, decide_eq_true (show (i : Int) ∈ [Y] by rw [hY, e]; exact List.mem_cons_self ..)]
          · rw [if_neg e, eL_lt (by rw [List.length_replicate]; exact hi), List.getElem_replicate, decide_eq_false (fun h => by have := List.mem_singleton.1 h; omega)] }
      rw [HXY.out.1, show ([(k : Int)]).length = 1 from rfl] at h
      have H8 := hid h
      clear h
      go_simp
      refine H8.out.mono ?_
      rintro e' w9 ⟨q6, c6, ps6, rfl, hrow6, hmap6, hat6, hg9, hm9⟩
      clear H8
      obtain ⟨FF, hFF⟩ : ∃ FF, acF es k N [(k : Int)] Y [] = FF := ⟨_, rfl⟩
      rw [hFF] at hmap6
      have HSc := hid (show acL es N (k + 1) = acL es N k ++ FF by rw [acL_succ, HXY.out.2, hFF])
      have hP6 : P + ps6.length ≤ 104603532030 := by
        have h3 := acL_fewS (k := k + 1) G.out (by rw [Hn.out]; omega)
        have h4 := congrArg List.length hmap6
        have h5 := congrArg List.length hS.out.con
        rw [List.length_map] at h4 h5
        rw [HPs.out.1] at h5
        rw [HSc.out, List.length_append] at h3
        omega
      have HP6 := hid hP6
      have HB9 := hid (show Below wo.heap.size wo w9 from (bfrom HB6.out HB7.out).grown hg9 (Nat.le_trans HB6.out.size HB7.out.size) (fun j hj => by have := Option.some.inj hj; omega))
      have HS9 := hid (hS.out.on HB9.out)
      have hrow9 := HS9.out.row
      rw [HPs.out.1] at hrow9
      have HR9 := hid hrow9
      have HR6 := hid hrow6
      have HMp := hid hmap6
      have HA6 := hid hat6
      have hs9 := HB9.out.size
      clear hrow6 hmap6 hat6 hg9 hm9 hrow9 hFF
      refine hK.out _ _ ?_ (fun _ => ?_)
      · exact ⟨HS9.out.bx, Hr.out.on HS9.out.bw⟩
      clear hK K
      refine wpAnyH_ready (rs := [18]) (by kernel_rfl) (by simp) ?_
      refine AllReadyH.cons rfl (fun K hK => ?_) AllReadyH.nil
      refine step_append_many rfl (.tmp 25) (.tmp 42) rfl (by rfl) HR9.out (by rfl) HR6.out (by omega) (by omega) (by omega) ?_
      intro q9 c9 w10 hrow10 hg10
      have HS10 := hid (stX_yes hS.out HPs.out.1 HMp.out HSc.out HB9.out HA6.out (Nat.le_trans HB6.out.size HB7.out.size) hg10 hrow10 (by omega) hwz)
      clear hrow10 hg10
      refine hK.out _ _ ?_ (fun _ => ?_)
      · exact ⟨HS10.out.bx, Hr.out.on HS10.out.bw⟩
      clear hK K
      refine wpAnyH_ready (rs := [19]) (by kernel_rfl) (by simp) ?_
      refine AllReadyH.cons rfl (fun K hK => ?_) AllReadyH.nil
      go_simp
      refine hK.out _ _ ?_ (fun _ => ?_)
      · exact ⟨HS10.out.bx, Hr.out.on HS10.out.bw⟩
      clear hK K
      refine wpAnyH_done (by kernel_rfl) ?_ _
      have HPn := hid (show (ps ++ ps6).length = P + ps6.length by rw [List.length_append, HPs.out.1])
      clear hP6
      go_wp2
      go_roundw
      case rel => exact ⟨k + 1, P + ps6.length, c9, q9, ps ++ ps6, by have := HKl.out; omega, hid ⟨HPn.out, HP6.out⟩, rfl, by go_num, HS10⟩
      case measure => have := HKl.out; simp [intOf]; omega
    · obtain rfl : k = n := by omega
      have HSe := hid hS.out
      go_wp2
      go_ret
      obtain ⟨hP1, _⟩ := hP.out
      subst hP1
      exact ⟨q, cap, ps, rfl, rowA_less HSe.out.row (by omega), HSe.out.con, HSe.out.rows.less (by omega), HSe.out.bw⟩

end Go.Proofs.Ytfdlhdgmbjdhbaa
