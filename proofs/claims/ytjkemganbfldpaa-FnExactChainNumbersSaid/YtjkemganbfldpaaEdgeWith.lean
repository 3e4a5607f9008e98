/- The edge with a colour at a vertex, in the program: edgeWith. -/
import Derived.Test.YtjkemganbfldpaaIterB
import Derived.Test.YtjkemganbfldpaaDist
import Derived.Test.YtjkemganbfldpaaChnB
import Derived.BigQuiet
namespace Go.Proofs.Ytjkemganbfldpaa
open Go.RowKit Go.Shelf

attribute [local go_sem] Oper.semAt_some

theorem boxed_at (w : World) (g : Nat) (t : TypeId) (v : Value) (hg : g = w.heap.size) : Boxed (w.alloc (.cells #[v] t)) g t v := by subst hg; exact Boxed.new w t v
theorem box_at (w : World) (g : Nat) (s : Int) (q : Option Addr) (n cap : Nat) (t : TypeId) (hg : g = w.heap.size) : Box (w.alloc (.cells #[.int .i64 s, .slice q n cap] t)) g s q n cap := by subst hg; exact Box.new w s q n cap t
/-- The two results, read out of their cells. -/
theorem results_two {fn : Func} {p q : Tmp} (h : fn.results = #[.cell p 2, .cell q 2]) (tmps : Array Value) (w : World) (g1 g2 : Nat) (x y : Int) (h1 : tmps.getD p undef = .pointer (some ⟨g1, 0, none⟩)) (h2 : tmps.getD q undef = .pointer (some ⟨g2, 0, none⟩)) (hx : Boxed w g1 2 (.int .i64 x)) (hy : Boxed w g2 2 (.int .i64 y)) :
    (results fn tmps).run Try.prog w = .ok (.tuple #[.int .i64 x, .int .i64 y]) w := by
  have e1 : tmps[p]?.getD undef = .pointer (some ⟨g1, 0, none⟩) := by simpa using h1
  have e2 : tmps[q]?.getD undef = .pointer (some ⟨g2, 0, none⟩) := by simpa using h2
  have ha : (isAgg 2).run Try.prog w = .ok false w := by
    unfold isAgg
    rw [Sem.run_bind, run_underlying Try.underlying2 w]
    rfl
  have c1 := hx.cell
  have c2 := hy.cell
  simp [results, h, e1, e2, asAddr, loadVar, Sem.run_bind, ha, c1, c2, Result.andThen]

set_option maxRecDepth 100000 in
set_option maxHeartbeats 8000000 in
theorem iEdgeWith_any (s : Int) (b off n c cb co m d V C : Nat) (es : List (Int × Int)) (cs : List Int) (w : World) (hn : es.length = n) (hr : ReadsE w b off es) (hl : cs.length = m) (hrc : ReadsI w cb co cs) (hnm : m = n) (g : IsG s es) (gc : isColP es cs) (hv : (V : Int) < s) (hc : C < 3) :
    Calls Try.prog 43 #[.agg #[.int .i64 s, .slice (some ⟨b, off, none⟩) n c], .slice (some ⟨cb, co, none⟩) m d, .int .i64 V, .int .i64 C] w fun e' w' => e' = .returned (.tuple #[.int .i64 (colAt es cs V C), .int .i64 (othE es V (colAt es cs V C))]) ∧ Below w.heap.size w w' := by
  subst hnm
  have hm30 : m ≤ 30 := by have := isG_len g; omega
  have hcbl : cb < w.heap.size := hrc.lt (by have := g.1.1.2.2.2; have := g.1.1.1; omega)
  have hbl : b < w.heap.size := reads_lt hr (by have := g.1.1.2.2.2; have := g.1.1.1; omega)
  obtain ⟨s1, s2, s3⟩ := colAt_spec g gc (v := (V : Int)) ⟨by omega, hv⟩ (c := (C : Int)) ⟨by omega, by omega⟩
  have HS := hid (show ∀ e, e < es.length → onE es V e = true → eI cs e = C → e = colAt es cs V C from fun e h1 h2 h3 => col_one g gc h1 s1 h2 s2 (h3.trans s3.symm))
  have HS1 := hid (And.intro s1 (And.intro s2 s3))
  obtain ⟨E, hE⟩ : ∃ E, colAt es cs V C = E := ⟨_, rfl⟩
  rw [hE] at HS HS1 ⊢
  obtain ⟨U, hU⟩ : ∃ U, othE es V E = U := ⟨_, rfl⟩
  rw [hU]
  have HU := hid hU
  have Hn := hid hn
  have Hr := hid hr
  have Hl := hid hl
  have Hrc := hid hrc
  clear hn hr hl hrc g gc s1 s2 s3 hE hU
  refine (callsIn_wide (n := 6)).1 ?_
  refine callsIn_of_wp_marks Try.func43 rfl trivial ?_ rfl
  simp only [Try.ntmps43, List.size_toArray, List.length_cons, List.length_nil, Nat.reduceAdd, Nat.reduceSub, Array.replicate_succ, Array.replicate_zero, List.push_toArray, List.append_toArray, List.nil_append, List.cons_append]
  gi_wp2_with (refine ⟨trivial, ?_⟩; gi_at_call 48; refine (callsIn_wide.2 (iAround_any _ _ _ _ _ _)).mono ?_; rintro e w' ⟨rfl, rfl⟩)
  obtain ⟨W0, hW0⟩ : ∃ W0 : World, W0 = (((((((w.alloc (.cells #[.int .i64 s, .slice (some ⟨b, off, none⟩) m c] 31)).alloc (.cells #[.slice (some ⟨cb, co, none⟩) m d] 25)).alloc (.cells #[.int .i64 C] 2)).alloc (.cells #[.int .i64 0] 2)).alloc (.cells #[.int .i64 0] 2)).alloc (.cells #[.int .i64 s, .slice (some ⟨b, off, none⟩) m c] 31)).alloc (.cells #[.int .i64 V] 2)) := ⟨_, rfl⟩
  rw [← hW0]
  have hB0 : Below w.heap.size w W0 := by rw [hW0]; exact bfrom (bfrom (bfrom (bfrom (bfrom (bfrom (on_alloc _ _) (on_alloc _ _)) (on_alloc _ _)) (on_alloc _ _)) (on_alloc _ _)) (on_alloc _ _)) (on_alloc _ _)
  have hsz : W0.heap.size = w.heap.size + 7 := by rw [hW0]; simp
  have b1 : Boxed W0 (w.heap.size + 1) 25 (.slice (some ⟨cb, co, none⟩) m d) := by rw [hW0]; exact (((((boxed_at _ _ _ _ (by simp)).alloc _).alloc _).alloc _).alloc _).alloc _
  have b2 : Boxed W0 (w.heap.size + 1 + 1) 2 (.int .i64 C) := by rw [hW0]; exact ((((boxed_at _ _ _ _ (by simp)).alloc _).alloc _).alloc _).alloc _
  have b3 : Boxed W0 (w.heap.size + 1 + 1 + 1) 2 (.int .i64 0) := by rw [hW0]; exact (((boxed_at _ _ _ _ (by simp)).alloc _).alloc _).alloc _
  have b4 : Boxed W0 (w.heap.size + 1 + 1 + 1 + 1) 2 (.int .i64 0) := by rw [hW0]; exact ((boxed_at _ _ _ _ (by simp)).alloc _).alloc _
  have hbG : W0.cell? ⟨w.heap.size + 1 + 1 + 1 + 1 + 1, 1, none⟩ = some (.slice (some ⟨b, off, none⟩) m c) := by rw [hW0]; exact ((box_at _ _ _ _ _ _ _ (by simp)).on (on_alloc _ _)).2
  have hbV : W0.cell? ⟨w.heap.size + 1 + 1 + 1 + 1 + 1 + 1, 0, none⟩ = some (.int .i64 V) := by rw [hW0]; exact (boxed_at _ _ _ _ (by simp)).cell
  clear hW0
  refine wpIn_rangeFunc_ownG (n := 6) rfl (by omega) (gf := 54) (lb := #[.pointer (some ⟨w.heap.size + 1 + 1 + 1 + 1 + 1, 0, none⟩), .pointer (some ⟨w.heap.size + 1 + 1 + 1 + 1 + 1 + 1, 0, none⟩)]) rfl trivial (enters_of Try.func54 (by kernel_rfl) rfl)
    (aroundS_stops 5 (by omega) (w.heap.size + 1 + 1 + 1 + 1 + 1) (w.heap.size + 1 + 1 + 1 + 1 + 1 + 1) w.heap.size b off m c V es Hn.out hm30 hbl W0 (by omega) hbG hbV (by omega) (by omega) (Hr.out.on hB0)) kpB_t (kpB_b (by omega) (by omega)) (Below.refl _ _) (fun _ => rfl)
    (fun (pre : List (ArS es V)) W => (∀ x, x ∈ pre → eI cs x.1.1 ≠ C) ∧ Boxed W (w.heap.size + 1) 25 (.slice (some ⟨cb, co, none⟩) m d) ∧ Boxed W (w.heap.size + 1 + 1) 2 (.int .i64 C) ∧ Boxed W (w.heap.size + 1 + 1 + 1) 2 (.int .i64 0) ∧ Boxed W (w.heap.size + 1 + 1 + 1 + 1) 2 (.int .i64 0) ∧ Below w.heap.size w W)
    (fun c' _ W => c' = .ret ∧ Boxed W (w.heap.size + 1 + 1 + 1) 2 (.int .i64 E) ∧ Boxed W (w.heap.size + 1 + 1 + 1 + 1) 2 (.int .i64 U) ∧ Below w.heap.size w W)
    (OwnFrom.and (ownFrom_pure _ _) (OwnFrom.and (Own.from (boxed_own _ _ (fun _ => _)) _) (OwnFrom.and (Own.from (boxed_own _ _ (fun _ => _)) _) (OwnFrom.and (Own.from (boxed_own _ _ (fun _ => _)) _) (OwnFrom.and (Own.from (boxed_own _ _ (fun _ => _)) _) (ownFrom_below (Nat.le_refl _) (by omega)))))))
    (fun c' => OwnFrom.and (ownFrom_pure _ (fun _ => c' = .ret)) (OwnFrom.and (Own.from (boxed_own _ _ (fun _ => _)) _) (OwnFrom.and (Own.from (boxed_own _ _ (fun _ => _)) _) (ownFrom_below (Nat.le_refl _) (by omega)))))
    ⟨fun x hx => by simp at hx, b1, b2, b3, b4, hB0⟩
    (fun x => { tmps := #[.agg #[.int .i64 s, .slice (some ⟨b, off, none⟩) m c], .slice (some ⟨cb, co, none⟩) m d, .int .i64 V, .int .i64 C, .pointer (some ⟨w.heap.size, 0, none⟩), .pointer (some ⟨w.heap.size + 1, 0, none⟩), undef, .pointer (some ⟨w.heap.size + 1 + 1, 0, none⟩), .pointer (some ⟨w.heap.size + 1 + 1 + 1, 0, none⟩), .pointer (some ⟨w.heap.size + 1 + 1 + 1 + 1, 0, none⟩), .int .i64 (x.1.1 : Int), .int .i64 x.1.2, .agg #[.int .i64 s, .slice (some ⟨b, off, none⟩) m c], .int .i64 V, .func (.func 54) #[] #[.pointer (some ⟨w.heap.size + 1 + 1 + 1 + 1 + 1, 0, none⟩), .pointer (some ⟨w.heap.size + 1 + 1 + 1 + 1 + 1 + 1, 0, none⟩)], .int .i64 (x.1.1 : Int), .int .i64 x.1.2, undef, undef, undef, undef, undef, undef, undef, undef], defers := [] }) ?assign ?body ?done ?stop
  case assign =>
    intro l x W K hK
    gi_wp2
    exact hK
  case body =>
    rintro l pre ⟨⟨f, u⟩, hfl, hfo, hfu⟩ W ⟨hp, h1, h2, h3, h4, hB⟩ hlt
    have HP := hid hp
    have HFO := hid hfo
    have HFU := hid hfu
    have hfm : f < m := by have := Hn.out; omega
    have hfm' : (f : Int) < (m : Int) := by omega
    have hc1 := h1.cell
    have hc2 := h2.cell
    have hc3 := h3.cell
    have hc4 := h4.cell
    have hf3 := h3.frozen
    have hf4 := h4.frozen
    have hcs := Hrc.out.on hB f (by have := Hl.out; omega)
    have hcbW : cb < W.heap.size := by have := hB.size; omega
    obtain ⟨z, hz⟩ : ∃ z, eI cs f = z := ⟨_, rfl⟩
    rw [hz] at hcs
    have HZ := hid hz
    clear hp hz
    by_cases hzc : z = C
    · subst hzc
      have t1 : ((C : Int) == (C : Int)) = true := by simp
      have HE := hid (HS.out f hfl HFO.out HZ.out)
      gi_wp2
      refine region_round_quiet rfl (by kernel_rfl) (by kernel_rfl) (by kernel_rfl) ?_
      repeat (gi_big_quiet_step (fail))
      refine wpQuietIn_nil ?_
      intro _ hw'
      obtain ⟨nq, rfl⟩ := hw'
      gi_wp2
      refine ⟨KeepsFrom.trans (Y := W.drewN nq) ⟨Nat.le_refl _, fun k o _ hk _ => hk⟩ (((KeepsOthers.setCell (W.drewN nq) _ _).trans (KeepsOthers.setCell _ _ _)).from _), rfl, ?_, ?_, ?_⟩
      · rw [← HE.out]
        exact (Boxed.set _ (show Boxed (W.drewN nq) _ _ _ from h3)).other (by omega) _
      · rw [show U = u by rw [← HU.out, ← HE.out, ← HFU.out]]
        exact Boxed.set _ ((show Boxed (W.drewN nq) _ _ _ from h4).other (by omega) _)
      · exact ((bdn.mpr hB).setCell (p := ⟨w.heap.size + 1 + 1 + 1, 0, none⟩) (by show w.heap.size ≤ w.heap.size + 1 + 1 + 1; omega) _).setCell (p := ⟨w.heap.size + 1 + 1 + 1 + 1, 0, none⟩) (by show w.heap.size ≤ w.heap.size + 1 + 1 + 1 + 1; omega) _
    · have t1 : (z == (C : Int)) = false := by simpa using hzc
      gi_wp2
      refine region_round_quiet rfl (by kernel_rfl) (by kernel_rfl) (by kernel_rfl) ?_
      repeat (gi_big_quiet_step (fail))
      refine wpQuietIn_nil ?_
      intro _ hw'
      obtain ⟨nq, rfl⟩ := hw'
      gi_wp2
      refine ⟨⟨Nat.le_refl _, fun k o _ hk _ => hk⟩, ⟨bdn.mpr (Below.refl _ _), rfl⟩, fun x hx => ?_, h1, h2, h3, h4, bdn.mpr hB⟩
      rcases List.mem_append.1 hx with hx | hx
      · exact HP.out x hx
      · obtain rfl : x = ⟨(f, u), _⟩ := by simpa using hx
        rw [show (⟨(f, u), ⟨hfl, hfo, hfu⟩⟩ : ArS es V).1.1 = f from rfl, HZ.out]
        exact hzc
  case done =>
    rintro D ys W hD hys ⟨hp, _⟩ hK
    exfalso
    have hyl : (ys.map fun z => z.1.1) = onL es V := by
      have h := congrArg (List.map Prod.fst) hys
      rw [List.map_map, arF_onL] at h
      exact h
    have hm1 : E ∈ (ys.map fun z => z.1.1) := by rw [hyl]; exact onL_mem.2 ⟨HS1.out.1, HS1.out.2.1⟩
    obtain ⟨x, hx, hxe⟩ := List.mem_map.1 hm1
    exact hp x hx (by rw [hxe]; exact HS1.out.2.2)
  case stop =>
    rintro D c' pre W hD hpre ⟨rfl, h3, h4, hB⟩ hK
    gi_wp2
    refine ⟨by simp, .inl ⟨_, _, rfl, run_takeDeferred hK, ?_⟩⟩
    refine ⟨_, results_two rfl _ _ (w.heap.size + 1 + 1 + 1) (w.heap.size + 1 + 1 + 1 + 1) _ _ rfl rfl (h3.kept (grownBy_putObj' _ D (.deferred none)) (fun e => by have := Option.some.inj e; omega)) (h4.kept (grownBy_putObj' _ D (.deferred none)) (fun e => by have := Option.some.inj e; omega)), rfl, hB.trans (belowK_b (w := w) (Nat.le_refl _) W D _ _ (by omega) hK rfl rfl)⟩

end Go.Proofs.Ytjkemganbfldpaa
