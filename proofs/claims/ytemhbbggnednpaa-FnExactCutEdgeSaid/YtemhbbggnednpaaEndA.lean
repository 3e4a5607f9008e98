/- The other ends of the edges at a vertex, without those that join two given vertices, in the program of chapter 6: endsAround. -/
import Derived.Test.YtemhbbggnednpaaIterB
import Derived.Test.YtemhbbggnednpaaRounds
import Derived.Test.YtemhbbggnednpaaOwnMore
import Derived.BigQuiet
namespace Go.Proofs.Ytemhbbggnednpaa
open Go.RowKit Go.Shelf

attribute [local go_sem] Oper.semAt_some

theorem row_lessE {w : World} {B B' : Nat} {e : TypeId} {sz n : Nat} {v : Value} {xs : List Value} (h : w.ownsRow B e sz v n xs) (hB : B' ≤ B) : w.ownsRow B' e sz v n xs := by
  refine ⟨h.1, ?_⟩
  rcases h.2 with hn | ⟨g, c, cur, hv, hb, r⟩
  · exact .inl hn
  · exact .inr ⟨g, c, cur, hv, Nat.le_trans hB hb, r⟩
theorem freshI_ofE {B : Nat} {w : World} {v : Value} {n : Nat} {xs : List Int} (h : w.ownsRow B 2 1 v n (intVals xs)) (hl : xs.length = n) : ∃ q cap, v = .slice q n cap ∧ FreshI B w q n cap xs := by
  rcases h.2 with ⟨rfl, h0⟩ | ⟨g, cap, cur, rfl, _⟩
  · subst h0
    exact ⟨none, 0, rfl, h, hl⟩
  · exact ⟨_, _, rfl, h, hl⟩

def keepE (es : List (Int × Int)) (x y : Int) (e : Nat) : Bool := !(eA es e == x && eB es e == y)
def endL (es : List (Int × Int)) (x y : Int) (ps : List (Nat × Int)) : List Int := (ps.filter fun p => keepE es x y p.1).map Prod.snd
theorem endL_snoc_yes {es : List (Int × Int)} {x y : Int} {ps : List (Nat × Int)} {p : Nat × Int} (h : keepE es x y p.1 = true) : endL es x y (ps ++ [p]) = endL es x y ps ++ [p.2] := by
  unfold endL
  rw [List.filter_append, List.map_append]
  simp [h]
theorem endL_snoc_no {es : List (Int × Int)} {x y : Int} {ps : List (Nat × Int)} {p : Nat × Int} (h : keepE es x y p.1 = false) : endL es x y (ps ++ [p]) = endL es x y ps := by
  unfold endL
  rw [List.filter_append, List.map_append]
  simp [h]
theorem endL_len (es : List (Int × Int)) (x y : Int) (ps : List (Nat × Int)) : (endL es x y ps).length ≤ ps.length := by
  unfold endL
  rw [List.length_map]
  exact List.length_filter_le _ _

set_option maxRecDepth 100000 in
set_option maxHeartbeats 8000000 in
theorem iEndA_any (s v x y : Int) (b off n c : Nat) (es : List (Int × Int)) (w : World) (hn30 : n ≤ 100) (hn : es.length = n) (hr : ReadsE w b off es) (hbl : b < w.heap.size) :
    Calls Try.prog 46 #[.agg #[.int .i64 s, .slice (some ⟨b, off, none⟩) n c], .int .i64 v, .agg #[.int .i64 x, .int .i64 y]] w fun e w' => ∃ q cap, e = .returned (.slice q (endL es x y (arF es v)).length cap) ∧ FreshI w.heap.size w' q (endL es x y (arF es v)).length cap (endL es x y (arF es v)) ∧ Below w.heap.size w w' := by
  have Hn := hid hn
  have Hr := hid hr
  obtain ⟨i0, hi, hz0, hz1, hz2⟩ := info_parts infoInt
  have Hi := hid hi
  clear hn hr hi
  refine (callsIn_wide (n := 6)).1 ?_
  refine callsIn_of_wp_marks Try.func46 rfl trivial ?_ rfl
  simp only [Try.ntmps46, List.size_toArray, List.length_cons, List.length_nil, Nat.reduceAdd, Nat.reduceSub, Array.replicate_succ, Array.replicate_zero, List.push_toArray, List.append_toArray, List.nil_append, List.cons_append]
  gi_wp2_with (refine ⟨trivial, ?_⟩; gi_at_call 84; refine (callsIn_wide.2 (iAround_any _ _ _ _ _ _)).mono ?_; rintro e w' ⟨rfl, rfl⟩)
  obtain ⟨W0, hW0⟩ : ∃ W0 : World, W0 = (((((w.alloc (.cells #[.int .i64 s, .slice (some ⟨b, off, none⟩) n c] 28)).alloc (.cells #[.int .i64 x, .int .i64 y] 58)).alloc (.cells #[.slice none 0 0] 38)).alloc (.cells #[.int .i64 s, .slice (some ⟨b, off, none⟩) n c] 28)).alloc (.cells #[.int .i64 v] 2)) := ⟨_, rfl⟩
  rw [← hW0]
  have hsz : W0.heap.size = w.heap.size + 5 := by rw [hW0]; simp
  have hB0 : Below w.heap.size w W0 := by rw [hW0]; exact bfrom (bfrom (bfrom (bfrom (on_alloc _ _) (on_alloc _ _)) (on_alloc _ _)) (on_alloc _ _)) (on_alloc _ _)
  have b1 : W0.heap[w.heap.size]? = some (.cells #[.int .i64 s, .slice (some ⟨b, off, none⟩) n c] 28 (0, 0)) := by
    rw [hW0]
    exact (Below.heap_alloc _ _ _ (by simp <;> omega)).trans ((Below.heap_alloc _ _ _ (by simp <;> omega)).trans ((Below.heap_alloc _ _ _ (by simp <;> omega)).trans ((Below.heap_alloc _ _ _ (by simp)).trans (World.alloc_heap_new w _))))
  have b2 : W0.heap[w.heap.size + 1]? = some (.cells #[.int .i64 x, .int .i64 y] 58 (0, 0)) := by
    rw [hW0]
    have h1 := World.alloc_heap_new (w.alloc (.cells #[.int .i64 s, .slice (some ⟨b, off, none⟩) n c] 28)) (.cells #[.int .i64 x, .int .i64 y] 58)
    rw [World.size_alloc] at h1
    exact (Below.heap_alloc _ _ _ (by simp <;> omega)).trans ((Below.heap_alloc _ _ _ (by simp <;> omega)).trans ((Below.heap_alloc _ _ _ (by simp)).trans h1))
  have b3 : Boxed W0 (w.heap.size + 1 + 1) 38 (.slice none 0 0) := by
    rw [hW0]
    have h1 := Boxed.new ((w.alloc (.cells #[.int .i64 s, .slice (some ⟨b, off, none⟩) n c] 28)).alloc (.cells #[.int .i64 x, .int .i64 y] 58)) 38 (.slice none 0 0)
    simp only [World.size_alloc] at h1
    exact (h1.alloc _).alloc _
  have hbG : W0.cell? ⟨w.heap.size + 1 + 1 + 1, 1, none⟩ = some (.slice (some ⟨b, off, none⟩) n c) := by
    rw [hW0]
    have h := ((Box.new (((w.alloc (.cells #[.int .i64 s, .slice (some ⟨b, off, none⟩) n c] 28)).alloc (.cells #[.int .i64 x, .int .i64 y] 58)).alloc (.cells #[.slice none 0 0] 38)) s (some ⟨b, off, none⟩) n c 28).on (on_alloc _ (.cells #[.int .i64 v] 2))).2
    simpa only [World.size_alloc] using h
  have hbV : W0.cell? ⟨w.heap.size + 1 + 1 + 1 + 1, 0, none⟩ = some (.int .i64 v) := by
    rw [hW0]
    have h := (Boxed.new ((((w.alloc (.cells #[.int .i64 s, .slice (some ⟨b, off, none⟩) n c] 28)).alloc (.cells #[.int .i64 x, .int .i64 y] 58)).alloc (.cells #[.slice none 0 0] 38)).alloc (.cells #[.int .i64 s, .slice (some ⟨b, off, none⟩) n c] 28)) 2 (.int .i64 v)).cell
    simpa only [World.size_alloc] using h
  have hal : ∀ k, (arU es v k).length ≤ k := arU_len es v
  clear hW0
  refine wpIn_rangeFunc_ownG (n := 6) rfl (by omega) (gf := 113) (lb := #[.pointer (some ⟨w.heap.size + 1 + 1 + 1, 0, none⟩), .pointer (some ⟨w.heap.size + 1 + 1 + 1 + 1, 0, none⟩)]) rfl trivial (enters_of Try.func113 (by kernel_rfl) rfl)
    (aroundS_stops100 5 (by omega) (w.heap.size + 1 + 1 + 1) (w.heap.size + 1 + 1 + 1 + 1) (w.heap.size + 1 + 1) b off n c v es Hn.out hn30 (by omega) W0 (by omega) hbG hbV (by omega) (by omega) (Hr.out.on hB0)) kpB_t (kpB_b (by omega) (by omega)) (Below.refl _ _) (fun _ => rfl)
    (fun (pre : List (ArS es v)) W => ((∃ u, Boxed W (w.heap.size + 1 + 1) 38 u ∧ W.ownsRow (w.heap.size + 5) 2 1 u (endL es x y (pre.map Subtype.val)).length (intVals (endL es x y (pre.map Subtype.val))) ∧ True) ∧ Below (w.heap.size + 1 + 1) W0 W))
    (fun _ _ _ => False)
    (OwnFrom.and (Own.from (holdsRow_own (w.heap.size + 5) (w.heap.size + 1 + 1) 38 2 1 (fun (pre : List (ArS es v)) => (endL es x y (pre.map Subtype.val)).length) (fun (pre : List (ArS es v)) => intVals (endL es x y (pre.map Subtype.val))) (fun _ _ => True)) _) (fun pre Y Z row hs hg hrow => hs.grown hg (by have := hs.size; omega) (fun k hk => by have := (hrow k hk).1; omega)))
    (fun _ _ _ _ _ hs _ _ => hs)
    ⟨⟨_, b3, World.ownsRow_nil _ _ _ _, trivial⟩, Below.refl _ _⟩
    ?a1 ?assign ?body ?done ?stop
  case assign =>
    intro l p W K hK
    gi_wp2
    exact hK
  case body =>
    rintro l pre ⟨⟨f, u⟩, hfl, hfo, hfu⟩ W ⟨⟨u7, h7, hrow, _⟩, hB⟩ hlt
    have hfn : f < n := by have := Hn.out; omega
    have hfn' : (f : Int) < (n : Int) := by omega
    have hszW := hB.size
    have hg1 := (hB.block w.heap.size (by omega)).trans b1
    have hg2 := (hB.block (w.heap.size + 1) (by omega)).trans b2
    have hk1 : W.cell? ⟨w.heap.size, 1, none⟩ = some (.slice (some ⟨b, off, none⟩) n c) := (cell_of_row W w.heap.size 1 _ _ _ hg1).trans rfl
    have hk2 : W.cell? ⟨w.heap.size + 1, 0, none⟩ = some (.int .i64 x) := (cell_of_row W (w.heap.size + 1) 0 _ _ _ hg2).trans rfl
    have hk3 : W.cell? ⟨w.heap.size + 1, 1, none⟩ = some (.int .i64 y) := (cell_of_row W (w.heap.size + 1) 1 _ _ _ hg2).trans rfl
    have hrd := Hr.out.on (hB0.trans (hB.mono (by omega))) f hfl
    have hc1 := hrd.1
    have hc2 := hrd.2
    have hbW : b < W.heap.size := by omega
    have hwl : w.heap.size < W.heap.size := by omega
    have hwl2 : w.heap.size + 1 < W.heap.size := by omega
    have hc7 := h7.cell
    have hf7 := h7.frozen
    have hl7 := h7.lt
    obtain ⟨X, hX⟩ : ∃ X, eA es f = X := ⟨_, rfl⟩
    obtain ⟨Y, hY⟩ : ∃ Y, eB es f = Y := ⟨_, rfl⟩
    obtain ⟨kb, hkb⟩ : ∃ kb, keepE es x y f = kb := ⟨_, rfl⟩
    have hneq : ∀ w', (binOp .neq 58 (.agg #[.int .i64 X, .int .i64 Y]) (.agg #[.int .i64 x, .int .i64 y])).run Try.prog w' = .ok (.bool kb) w' := fun w' => by
      rw [edge_neq, ← hkb, ← hX, ← hY]
      rfl
    rw [hX] at hc1
    rw [hY] at hc2
    have HKB := hid hkb
    have HEnc := hid (And.intro hfo hfu)
    have H7 := hid (And.intro h7 hrow)
    have HBW := hid hB
    have hpl : (endL es x y (pre.map Subtype.val)).length < 101 := by
      have h1 := endL_len es x y (pre.map Subtype.val)
      rw [List.length_map] at h1
      have h2 := hal es.length
      have := Hn.out
      unfold arF at hlt
      omega
    clear hX hY hkb hrd hg1 hg2 hB h7 hrow
    cases kb
    · gi_wp2
      refine region_round_quiet rfl (by kernel_rfl) (by kernel_rfl) (by kernel_rfl) ?_
      repeat (gi_big_quiet_step (fail))
      refine wpQuietIn_nil ?_
      intro _ hw'
      obtain ⟨nq, rfl⟩ := hw'
      gi_wp2
      refine ⟨⟨Nat.le_refl _, fun k o _ hk _ => hk⟩, ⟨bdn.mpr (Below.refl _ _), rfl⟩, ⟨_, H7.out.1, ?_, trivial⟩, bdn.mpr HBW.out⟩
      rw [List.map_append, List.map_singleton, endL_snoc_no HKB.out]
      exact H7.out.2
    · have hrow9 : ∀ nq, (W.drewN nq).ownsRow (w.heap.size + 5) 2 1 u7 (endL es x y (pre.map Subtype.val)).length (intVals (endL es x y (pre.map Subtype.val))) := fun nq => H7.out.2
      have hu9 : ∀ nq, Boxed (W.drewN nq) (w.heap.size + 1 + 1) 38 u7 := fun nq => H7.out.1
      obtain ⟨P0, hP0⟩ : ∃ P0, (endL es x y (pre.map Subtype.val)).length = P0 := ⟨_, rfl⟩
      rw [hP0] at hpl
      have HP0 := hid hP0
      have HSn := hid (show endL es x y ((pre ++ ([⟨(f, u), hfl, hfo, hfu⟩] : List (ArS es v))).map Subtype.val) = endL es x y (pre.map Subtype.val) ++ [u] by rw [List.map_append, List.map_singleton, endL_snoc_yes HKB.out])
      gi_wp2
      refine region_round_quiet rfl (by kernel_rfl) (by kernel_rfl) (by kernel_rfl) ?_
      repeat (gi_big_quiet_step (fail))
      refine wpQuietIn_nil ?_
      intro _ hw'
      obtain ⟨nq, rfl⟩ := hw'
      obtain ⟨V, hV⟩ : ∃ V, V = W.drewN nq := ⟨_, rfl⟩
      rw [← hV]
      have hrowV : V.ownsRow (w.heap.size + 5) 2 1 u7 P0 (intVals (endL es x y (pre.map Subtype.val))) := by rw [hV, ← hP0]; exact hrow9 nq
      have huV : Boxed V (w.heap.size + 1 + 1) 38 u7 := by rw [hV]; exact hu9 nq
      have hVs : V.heap.size = W.heap.size := by rw [hV]; rfl
      have HVB := hid (show Below (w.heap.size + 1 + 1) W V by rw [hV]; exact bdn.mpr (Below.refl _ _))
      have HVK := hid (show KeepsOthers W V by rw [hV]; exact ⟨Nat.le_refl _, fun k o hk _ => hk⟩)
      have HVs := hid (show V.heap[w.heap.size + 1 + 1 + 1 + 1]? = W.heap[w.heap.size + 1 + 1 + 1 + 1]? by rw [hV]; rfl)
      have hcV := huV.cell
      have hfV := huV.frozen
      have hlV := huV.lt
      have HVz := hid hVs
      clear hV hrow9 hu9 hP0 hVs hc7 hf7
      gi_wp2_with (gi_at_builtin; refine wpListIn_append_own _ rfl _ _ 38 rfl (w.heap.size + 5) 2 i0 (.int .i64 0) 1 8 Try.underlying38 Hi.out hz0 hz1 hz2 rfl (by decide) _ _ _ rfl (hrowV.alloc _) ⟨V.heap.size, 0, none⟩ 1 1 [.int .i64 u] rfl rfl (cell_one_new _ _ _) (by simp [Value.oneCell']) (by unfold maxLen; omega) (by omega) (by simp; have := HVz.out; omega) ?_; intro v' w1 hown' hgrow _; obtain ⟨g', cap', rfl⟩ := ownsRow_succ hown'; have hu1 : Boxed w1 (w.heap.size + 1 + 1) 38 u7 := (huV.alloc _).kept hgrow (huV.not_row (by decide) hrowV); have hc1' := hu1.cell; have hf1' := hu1.frozen)
      obtain ⟨_, hu2, _, hk2', hb2'⟩ := huV.appended (n₀ := w.heap.size + 1 + 1) (by decide) (row_lessE hrowV (by omega)) (by have := HVz.out; omega) (Nat.le_refl _) (row_lessE hown' (by omega)) hgrow
      refine ⟨(HVK.out.trans hk2').from _, ⟨HVB.out.trans hb2', ?_⟩, ⟨_, hu2, ?_, trivial⟩, (HBW.out.trans HVB.out).trans hb2'⟩
      · have h1 := hgrow.block (w.heap.size + 1 + 1 + 1 + 1) (by simp; have := HVz.out; omega) (fun h => by have := (hrowV.lt _ h.symm).1; omega)
        exact ((heap_setCell_other w1 ⟨w.heap.size + 1 + 1, 0, none⟩ _ _ (by show w.heap.size + 1 + 1 + 1 + 1 ≠ w.heap.size + 1 + 1; omega)).trans (h1.trans (Below.heap_alloc V _ _ (by have := HVz.out; omega)))).trans HVs.out
      · have h2 := hown'.kept (grownBy_setCell' w1 (w.heap.size + 1 + 1) (.slice (some ⟨g', 0, none⟩) (P0 + 1) cap')) (.inr (hu1.not_row (by decide) hown').symm)
        rw [HSn.out, intVals_append, List.length_append, HP0.out]
        exact h2
  case done =>
    rintro D ys W hD hys ⟨⟨u7, h7, hrow, _⟩, hB⟩ hK
    have hc7 := h7.cell
    have hl7 := h7.lt
    rw [hys] at hrow
    gi_wp2
    refine ⟨by simp, .inl ⟨_, _, rfl, run_takeDeferred hK, ?_⟩⟩
    have hrw := ownsRow_putObj hrow (.deferred none) hK rfl
    obtain ⟨q, cap, rfl, hf⟩ := freshI_ofE hrw rfl
    exact ⟨.slice q (endL es x y (arF es v)).length cap, by simp [results, Try.results46, go_sem], q, cap, rfl, hf.less (by omega), (hB0.trans (hB.mono (by omega))).trans (belowK_b (w := w) (Nat.le_refl _) W D _ _ (by omega) hK rfl rfl)⟩
  case stop =>
    rintro D c pre W _ _ h _
    exact h.elim

end Go.Proofs.Ytemhbbggnednpaa
