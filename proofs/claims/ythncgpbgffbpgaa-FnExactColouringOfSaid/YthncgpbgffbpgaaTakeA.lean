/- The first edge at a vertex that is not taken, in the program: untakenAt. -/
import Derived.Test.YthncgpbgffbpgaaEdgeWith
import Derived.Test.YthncgpbgffbpgaaRowsM
namespace Go.Proofs.Ythncgpbgffbpgaa
open Go.RowKit Go.Shelf

attribute [local go_sem] Oper.semAt_some

/-- The three results, read out of their cells. -/
theorem results_three {fn : Func} {p q u : Tmp} (h : fn.results = #[.cell p 2, .cell q 2, .cell u 4]) (tmps : Array Value) (w : World) (g1 g2 g3 : Nat) (x y : Int) (z : Bool) (h1 : tmps.getD p undef = .pointer (some ⟨g1, 0, none⟩)) (h2 : tmps.getD q undef = .pointer (some ⟨g2, 0, none⟩)) (h3 : tmps.getD u undef = .pointer (some ⟨g3, 0, none⟩)) (hx : Boxed w g1 2 (.int .i64 x)) (hy : Boxed w g2 2 (.int .i64 y)) (hz : Boxed w g3 4 (.bool z)) :
    (results fn tmps).run Try.prog w = .ok (.tuple #[.int .i64 x, .int .i64 y, .bool z]) w := by
  have e1 : tmps[p]?.getD undef = .pointer (some ⟨g1, 0, none⟩) := by simpa using h1
  have e2 : tmps[q]?.getD undef = .pointer (some ⟨g2, 0, none⟩) := by simpa using h2
  have e3 : tmps[u]?.getD undef = .pointer (some ⟨g3, 0, none⟩) := by simpa using h3
  have ha : (isAgg 2).run Try.prog w = .ok false w := by
    unfold isAgg
    rw [Sem.run_bind, run_underlying Try.underlying2 w]
    rfl
  have hb : (isAgg 4).run Try.prog w = .ok false w := by
    unfold isAgg
    rw [Sem.run_bind, run_underlying Try.underlying4 w]
    rfl
  have c1 := hx.cell
  have c2 := hy.cell
  have c3 := hz.cell
  simp [results, h, e1, e2, e3, asAddr, loadVar, Sem.run_bind, ha, hb, c1, c2, c3, Result.andThen]

/-- The first edge at a vertex that is not taken. -/
def utF (es : List (Int × Int)) (ts : List Bool) (v : Int) : Option Nat := (onL es v).find? fun y => !eL ts y
def lastE {es : List (Int × Int)} {v : Int} (pre : List (ArS es v)) : Int := (pre.getLast?.map fun x => (x.1.1 : Int)).getD 0
def lastO {es : List (Int × Int)} {v : Int} (pre : List (ArS es v)) : Int := (pre.getLast?.map fun x => x.1.2).getD 0
def stopP {es : List (Int × Int)} {v : Int} (ts : List Bool) (pre : List (ArS es v)) : Prop := ∃ pre0 x0, pre = pre0 ++ [x0] ∧ (∀ x, x ∈ pre0 → eL ts x.1.1 = true) ∧ eL ts x0.1.1 = false
theorem lastE_app {es : List (Int × Int)} {v : Int} (pre : List (ArS es v)) (x : ArS es v) : lastE (pre ++ [x]) = x.1.1 := by simp [lastE]
theorem lastO_app {es : List (Int × Int)} {v : Int} (pre : List (ArS es v)) (x : ArS es v) : lastO (pre ++ [x]) = x.1.2 := by simp [lastO]
theorem ut_none {es : List (Int × Int)} {v : Int} {ts : List Bool} {ys : List (ArS es v)} (hy : ys.map Subtype.val = arF es v) (h : ∀ x, x ∈ ys → eL ts x.1.1 = true) : utF es ts v = none := by
  have hyl : (ys.map fun z => z.1.1) = onL es v := by
    have h := congrArg (List.map Prod.fst) hy
    rw [List.map_map, arF_onL] at h
    exact h
  unfold utF
  rw [List.find?_eq_none]
  intro y hm
  rw [← hyl] at hm
  obtain ⟨x, hx, rfl⟩ := List.mem_map.1 hm
  rw [h x hx]
  decide
theorem ut_some {es : List (Int × Int)} {v : Int} {ts : List Bool} {pre : List (ArS es v)} {k : Nat} (hk : k ≤ es.length) (hy : pre.map Subtype.val = arU es v k) (h : stopP ts pre) : ∃ y : Nat, utF es ts v = some y ∧ lastE pre = y ∧ lastO pre = othE es v y := by
  obtain ⟨pre0, x0, rfl, h1, h2⟩ := h
  refine ⟨x0.1.1, ?_, lastE_app _ _, by rw [lastO_app]; exact x0.2.2.2⟩
  have hyl : ((pre0 ++ [x0]).map fun z => z.1.1) = (List.range k).filter (onE es v) := by
    have h := congrArg (List.map Prod.fst) hy
    rw [List.map_map] at h
    refine h.trans ?_
    unfold arU
    rw [List.map_map]
    exact List.map_id _
  have hsplit : onL es v = (pre0.map fun z => z.1.1) ++ [x0.1.1] ++ ((List.range' k (es.length - k)).filter (onE es v)) := by
    unfold onL
    have hr : List.range es.length = List.range k ++ List.range' k (es.length - k) := by
      rw [List.range_eq_range', List.range_eq_range']
      have := List.range'_append (s := 0) (m := k) (n := es.length - k) (step := 1)
      rw [show k + (es.length - k) = es.length by omega] at this
      simpa using this.symm
    rw [hr, List.filter_append, ← hyl, List.map_append]
    rfl
  unfold utF
  rw [hsplit, List.append_assoc, List.find?_append]
  have hn : (pre0.map fun z => z.1.1).find? (fun y => !eL ts y) = none := by
    rw [List.find?_eq_none]
    intro y hm
    obtain ⟨x, hx, rfl⟩ := List.mem_map.1 hm
    rw [h1 x hx]
    decide
  rw [hn]
  simp [h2]

set_option maxRecDepth 100000 in
set_option maxHeartbeats 8000000 in
theorem iUntaken_any (s : Int) (b off n c gT V : Nat) (es : List (Int × Int)) (ts : List Bool) (w : World) (hn : es.length = n) (hn30 : n ≤ 30) (hbl : b < w.heap.size) (hr : ReadsE w b off es) (ht : OwnB w gT n ts) (hl : ts.length = n) :
    Calls Try.prog 57 #[.agg #[.int .i64 s, .slice (some ⟨b, off, none⟩) n c], .int .i64 V, .slice (some ⟨gT, 0, none⟩) n n] w fun e' w' => (match utF es ts V with | some y => e' = .returned (.tuple #[.int .i64 y, .int .i64 (othE es V y), .bool true]) | none => e' = .returned (.tuple #[.int .i64 0, .int .i64 0, .bool false])) ∧ Below w.heap.size w w' := by
  have Hn := hid hn
  have Hr := hid hr
  have Ht := hid ht
  have Hl := hid hl
  have hgT := ht.lt
  obtain ⟨R, hR⟩ : ∃ R, utF es ts V = R := ⟨_, rfl⟩
  have HR := hid hR
  rw [hR]
  clear hn hr ht hl hR
  refine (callsIn_wide (n := 6)).1 ?_
  refine callsIn_of_wp_marks Try.func57 rfl trivial ?_ rfl
  simp only [Try.ntmps57, List.size_toArray, List.length_cons, List.length_nil, Nat.reduceAdd, Nat.reduceSub, Array.replicate_succ, Array.replicate_zero, List.push_toArray, List.append_toArray, List.nil_append, List.cons_append]
  gi_wp2_with (refine ⟨trivial, ?_⟩; gi_at_call 73; refine (callsIn_wide.2 (iAround_any _ _ _ _ _ _)).mono ?_; rintro e w' ⟨rfl, rfl⟩)
  obtain ⟨W0, hW0⟩ : ∃ W0 : World, W0 = (((((((w.alloc (.cells #[.int .i64 s, .slice (some ⟨b, off, none⟩) n c] 31)).alloc (.cells #[.slice (some ⟨gT, 0, none⟩) n n] 58)).alloc (.cells #[.int .i64 0] 2)).alloc (.cells #[.int .i64 0] 2)).alloc (.cells #[.bool false] 4)).alloc (.cells #[.int .i64 s, .slice (some ⟨b, off, none⟩) n c] 31)).alloc (.cells #[.int .i64 V] 2)) := ⟨_, rfl⟩
  rw [← hW0]
  have hB0 : Below w.heap.size w W0 := by rw [hW0]; exact bfrom (bfrom (bfrom (bfrom (bfrom (bfrom (on_alloc _ _) (on_alloc _ _)) (on_alloc _ _)) (on_alloc _ _)) (on_alloc _ _)) (on_alloc _ _)) (on_alloc _ _)
  have hsz : W0.heap.size = w.heap.size + 7 := by rw [hW0]; simp
  have b1 : Boxed W0 (w.heap.size + 1) 58 (.slice (some ⟨gT, 0, none⟩) n n) := by rw [hW0]; exact (((((boxed_at _ _ _ _ (by simp)).alloc _).alloc _).alloc _).alloc _).alloc _
  have b2 : Boxed W0 (w.heap.size + 1 + 1) 2 (.int .i64 0) := by rw [hW0]; exact ((((boxed_at _ _ _ _ (by simp)).alloc _).alloc _).alloc _).alloc _
  have b3 : Boxed W0 (w.heap.size + 1 + 1 + 1) 2 (.int .i64 0) := by rw [hW0]; exact (((boxed_at _ _ _ _ (by simp)).alloc _).alloc _).alloc _
  have b4 : Boxed W0 (w.heap.size + 1 + 1 + 1 + 1) 4 (.bool false) := by rw [hW0]; exact ((boxed_at _ _ _ _ (by simp)).alloc _).alloc _
  have hbG : W0.cell? ⟨w.heap.size + 1 + 1 + 1 + 1 + 1, 1, none⟩ = some (.slice (some ⟨b, off, none⟩) n c) := by rw [hW0]; exact ((box_at _ _ _ _ _ _ _ (by simp)).on (on_alloc _ _)).2
  have hbV : W0.cell? ⟨w.heap.size + 1 + 1 + 1 + 1 + 1 + 1, 0, none⟩ = some (.int .i64 V) := by rw [hW0]; exact (boxed_at _ _ _ _ (by simp)).cell
  clear hW0
  refine wpIn_rangeFunc_ownG (n := 6) rfl (by omega) (gf := 85) (lb := #[.pointer (some ⟨w.heap.size + 1 + 1 + 1 + 1 + 1, 0, none⟩), .pointer (some ⟨w.heap.size + 1 + 1 + 1 + 1 + 1 + 1, 0, none⟩)]) rfl trivial (enters_of Try.func85 (by kernel_rfl) rfl)
    (aroundS_stops 5 (by omega) (w.heap.size + 1 + 1 + 1 + 1 + 1) (w.heap.size + 1 + 1 + 1 + 1 + 1 + 1) w.heap.size b off n c V es Hn.out hn30 hbl W0 (by omega) hbG hbV (by omega) (by omega) (Hr.out.on hB0)) kpB_t (kpB_b (by omega) (by omega)) (Below.refl _ _) (fun _ => rfl)
    (fun (pre : List (ArS es V)) W => (∀ x, x ∈ pre → eL ts x.1.1 = true) ∧ Boxed W (w.heap.size + 1) 58 (.slice (some ⟨gT, 0, none⟩) n n) ∧ Boxed W (w.heap.size + 1 + 1) 2 (.int .i64 0) ∧ Boxed W (w.heap.size + 1 + 1 + 1) 2 (.int .i64 0) ∧ Boxed W (w.heap.size + 1 + 1 + 1 + 1) 4 (.bool false) ∧ Below w.heap.size w W)
    (fun c' pre W => (c' = .ret ∧ stopP ts pre) ∧ Boxed W (w.heap.size + 1 + 1) 2 (.int .i64 (lastE pre)) ∧ Boxed W (w.heap.size + 1 + 1 + 1) 2 (.int .i64 (lastO pre)) ∧ Boxed W (w.heap.size + 1 + 1 + 1 + 1) 4 (.bool true) ∧ Below w.heap.size w W)
    (OwnFrom.and (ownFrom_pure _ _) (OwnFrom.and (Own.from (boxed_own _ _ (fun _ => _)) _) (OwnFrom.and (Own.from (boxed_own _ _ (fun _ => _)) _) (OwnFrom.and (Own.from (boxed_own _ _ (fun _ => _)) _) (OwnFrom.and (Own.from (boxed_own _ _ (fun _ => _)) _) (ownFrom_below (Nat.le_refl _) (by omega)))))))
    (fun c' => OwnFrom.and (ownFrom_pure _ (fun pre => c' = .ret ∧ stopP ts pre)) (OwnFrom.and (Own.from (boxed_own _ _ (fun pre => .int .i64 (lastE pre))) _) (OwnFrom.and (Own.from (boxed_own _ _ (fun pre => .int .i64 (lastO pre))) _) (OwnFrom.and (Own.from (boxed_own _ _ (fun _ => _)) _) (ownFrom_below (Nat.le_refl _) (by omega))))))
    ⟨fun x hx => by simp at hx, b1, b2, b3, b4, hB0⟩
    (fun x => { tmps := #[.agg #[.int .i64 s, .slice (some ⟨b, off, none⟩) n c], .int .i64 V, .slice (some ⟨gT, 0, none⟩) n n, .pointer (some ⟨w.heap.size, 0, none⟩), undef, .pointer (some ⟨w.heap.size + 1, 0, none⟩), .pointer (some ⟨w.heap.size + 1 + 1, 0, none⟩), .pointer (some ⟨w.heap.size + 1 + 1 + 1, 0, none⟩), .pointer (some ⟨w.heap.size + 1 + 1 + 1 + 1, 0, none⟩), .int .i64 (x.1.1 : Int), .int .i64 x.1.2, .agg #[.int .i64 s, .slice (some ⟨b, off, none⟩) n c], .int .i64 V, .func (.func 85) #[] #[.pointer (some ⟨w.heap.size + 1 + 1 + 1 + 1 + 1, 0, none⟩), .pointer (some ⟨w.heap.size + 1 + 1 + 1 + 1 + 1 + 1, 0, none⟩)], .int .i64 (x.1.1 : Int), .int .i64 x.1.2, undef, undef, undef, undef, undef, undef, undef], defers := [] }) ?assign ?body ?done ?stop
  case assign =>
    intro l x W K hK
    gi_wp2
    exact hK
  case body =>
    rintro l pre ⟨⟨f, u⟩, hfl, hfo, hfu⟩ W ⟨hp, h1, h2, h3, h4, hB⟩ hlt
    have HP := hid hp
    have hfm : f < n := by have := Hn.out; omega
    have hfm' : (f : Int) < (n : Int) := by omega
    have hc1 := h1.cell
    have hc2 := h2.cell
    have hc3 := h3.cell
    have hc4 := h4.cell
    have hf2 := h2.frozen
    have hf3 := h3.frozen
    have hf4 := h4.frozen
    have hcs := (Ht.out.on hB).cell (i := f) (by rw [Hl.out]; exact hfm)
    have hgTW : gT < W.heap.size := by have := hB.size; omega
    obtain ⟨z, hz⟩ : ∃ z, eL ts f = z := ⟨_, rfl⟩
    rw [hz] at hcs
    have HZ := hid hz
    clear hp hz
    cases z
    · gi_wp2
      refine ⟨((KeepsOthers.setCell W _ _).trans ((KeepsOthers.setCell _ _ _).trans (KeepsOthers.setCell _ _ _))).from _, ⟨rfl, pre, ⟨(f, u), ⟨hfl, hfo, hfu⟩⟩, rfl, HP.out, HZ.out⟩, ?_, ?_, ?_, ?_⟩
      · rw [lastE_app]
        exact ((Boxed.set _ h2).other (by omega) _).other (by omega) _
      · rw [lastO_app]
        exact (Boxed.set _ (h3.other (by omega) _)).other (by omega) _
      · exact Boxed.set _ ((h4.other (by omega) _).other (by omega) _)
      · exact ((hB.setCell (p := ⟨w.heap.size + 1 + 1, 0, none⟩) (by show w.heap.size ≤ w.heap.size + 1 + 1; omega) _).setCell (p := ⟨w.heap.size + 1 + 1 + 1, 0, none⟩) (by show w.heap.size ≤ w.heap.size + 1 + 1 + 1; omega) _).setCell (p := ⟨w.heap.size + 1 + 1 + 1 + 1, 0, none⟩) (by show w.heap.size ≤ w.heap.size + 1 + 1 + 1 + 1; omega) _
    · gi_wp2
      refine ⟨KeepsFrom.refl _ _, ⟨Below.refl _ _, rfl⟩, fun x hx => ?_, h1, h2, h3, h4, hB⟩
      rcases List.mem_append.1 hx with hx | hx
      · exact HP.out x hx
      · obtain rfl : x = ⟨(f, u), _⟩ := by simpa using hx
        exact HZ.out
  case done =>
    rintro D ys W hD hys ⟨hp, _, h2, h3, h4, hB⟩ hK
    have hnone := ut_none hys hp
    rw [HR.out] at hnone
    subst hnone
    have hc2 := h2.cell
    have hc3 := h3.cell
    have hc4 := h4.cell
    have hf2 := h2.frozen
    have hf3 := h3.frozen
    have hf4 := h4.frozen
    gi_wp2
    refine ⟨by simp, .inl ⟨_, _, rfl, run_takeDeferred (((KeepsOthers.setCell W ⟨w.heap.size + 1 + 1, 0, none⟩ _).trans ((KeepsOthers.setCell _ ⟨w.heap.size + 1 + 1 + 1, 0, none⟩ _).trans (KeepsOthers.setCell _ ⟨w.heap.size + 1 + 1 + 1 + 1, 0, none⟩ _))).same D _ hK rfl), ?_⟩⟩
    have hK3 := ((KeepsOthers.setCell W ⟨w.heap.size + 1 + 1, 0, none⟩ (.int .i64 0)).trans ((KeepsOthers.setCell _ ⟨w.heap.size + 1 + 1 + 1, 0, none⟩ (.int .i64 0)).trans (KeepsOthers.setCell _ ⟨w.heap.size + 1 + 1 + 1 + 1, 0, none⟩ (.bool false)))).same D _ hK rfl
    have k2 := ((Boxed.set (.int .i64 0) h2).other (B' := w.heap.size + 1 + 1 + 1) (by omega) (.int .i64 0)).other (B' := w.heap.size + 1 + 1 + 1 + 1) (by omega) (.bool false)
    have k3 := (Boxed.set (.int .i64 0) (h3.other (B' := w.heap.size + 1 + 1) (by omega) (.int .i64 0))).other (B' := w.heap.size + 1 + 1 + 1 + 1) (by omega) (.bool false)
    have k4 := Boxed.set (.bool false) ((h4.other (B' := w.heap.size + 1 + 1) (by omega) (.int .i64 0)).other (B' := w.heap.size + 1 + 1 + 1) (by omega) (.int .i64 0))
    have kB := ((hB.setCell (p := ⟨w.heap.size + 1 + 1, 0, none⟩) (by show w.heap.size ≤ w.heap.size + 1 + 1; omega) (.int .i64 0)).setCell (p := ⟨w.heap.size + 1 + 1 + 1, 0, none⟩) (by show w.heap.size ≤ w.heap.size + 1 + 1 + 1; omega) (.int .i64 0)).setCell (p := ⟨w.heap.size + 1 + 1 + 1 + 1, 0, none⟩) (by show w.heap.size ≤ w.heap.size + 1 + 1 + 1 + 1; omega) (.bool false)
    exact ⟨_, results_three rfl _ _ (w.heap.size + 1 + 1) (w.heap.size + 1 + 1 + 1) (w.heap.size + 1 + 1 + 1 + 1) _ _ _ rfl rfl rfl (k2.kept (grownBy_putObj' _ D (.deferred none)) (fun e => by have := Option.some.inj e; omega)) (k3.kept (grownBy_putObj' _ D (.deferred none)) (fun e => by have := Option.some.inj e; omega)) (k4.kept (grownBy_putObj' _ D (.deferred none)) (fun e => by have := Option.some.inj e; omega)), rfl, kB.trans (belowK_b (w := w) (Nat.le_refl _) _ D _ _ (by omega) hK3 rfl rfl)⟩
  case stop =>
    rintro D c' pre W hD ⟨k, hk, hpre⟩ ⟨⟨rfl, hst⟩, h2, h3, h4, hB⟩ hK
    obtain ⟨y, hy1, hy2, hy3⟩ := ut_some (by rw [Hn.out]; exact hk) hpre hst
    rw [HR.out] at hy1
    subst hy1
    rw [hy2] at h2
    rw [hy3] at h3
    gi_wp2
    refine ⟨by simp, .inl ⟨_, _, rfl, run_takeDeferred hK, ?_⟩⟩
    exact ⟨_, results_three rfl _ _ (w.heap.size + 1 + 1) (w.heap.size + 1 + 1 + 1) (w.heap.size + 1 + 1 + 1 + 1) _ _ _ rfl rfl rfl (h2.kept (grownBy_putObj' _ D (.deferred none)) (fun e => by have := Option.some.inj e; omega)) (h3.kept (grownBy_putObj' _ D (.deferred none)) (fun e => by have := Option.some.inj e; omega)) (h4.kept (grownBy_putObj' _ D (.deferred none)) (fun e => by have := Option.some.inj e; omega)), rfl, hB.trans (belowK_b (w := w) (Nat.le_refl _) W D _ _ (by omega) hK rfl rfl)⟩

end Go.Proofs.Ythncgpbgffbpgaa
