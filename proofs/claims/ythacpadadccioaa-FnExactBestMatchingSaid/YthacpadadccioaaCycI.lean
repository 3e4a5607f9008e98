/- The cycles that a matching leaves, ranged over in the program: what the function that is ranged over owes. -/
import Derived.Test.YthacpadadccioaaEdgeWith
import Derived.Test.YthacpadadccioaaRowsM
import Derived.Deep.AppendLies
import Derived.Deep.DeepMust
import Derived.Test.YthacpadadccioaaTailIn

/- The first edge at a vertex that is not taken, in the program: untakenAt. -/
namespace Go.Proofs.Ythacpadadccioaa
open Go.RowKit Go.Shelf

attribute [local go_sem] Oper.semAt_some

/-- The three results, read out of their cells. -/
theorem results_three {fn : Func} {p q u : Tmp} (h : fn.results = #[.cell p 2, .cell q 2, .cell u 4]) (tmps : Array Value) (w : World) (g1 g2 g3 : Nat) (x y : Int) (z : Bool) (h1 : tmps.getD p undef = .pointer (some ⟨g1, 0, none⟩)) (h2 : tmps.getD q undef = .pointer (some ⟨g2, 0, none⟩)) (h3 : tmps.getD u undef = .pointer (some ⟨g3, 0, none⟩)) (hx : Boxed w g1 2 (.int .i64 x)) (hy : Boxed w g2 2 (.int .i64 y)) (hz : Boxed w g3 4 (.bool z)) :
    (results fn tmps).run Try.prog w = .ok (.tuple #[.int .i64 x, .int .i64 y, .bool z]) w := by
  have e1 : tmps[p]?.getD undef = .pointer (some ⟨g1, 0, none⟩) := by simpa using h1
  have e2 : tmps[q]?.getD undef = .pointer (some ⟨g2, 0, none⟩) := by simpa using h2
  have e3 : tmps[u]?.getD undef = .pointer (some ⟨g3, 0, none⟩) := by simpa using h3
  have ha : (isAgg 2).run Try.prog w = .ok false w := by
    unfold isAgg
    rw [Sem.run_bind, run_underlying Try.underlying2 w]
    rfl
  have hb : (isAgg 4).run Try.prog w = .ok false w := by
    unfold isAgg
    rw [Sem.run_bind, run_underlying Try.underlying4 w]
    rfl
  have c1 := hx.cell
  have c2 := hy.cell
  have c3 := hz.cell
  simp [results, h, e1, e2, e3, asAddr, loadVar, Sem.run_bind, ha, hb, c1, c2, c3, Result.andThen]

/-- The first edge at a vertex that is not taken. -/
def utF (es : List (Int × Int)) (ts : List Bool) (v : Int) : Option Nat := (onL es v).find? fun y => !eL ts y
def lastE {es : List (Int × Int)} {v : Int} (pre : List (ArS es v)) : Int := (pre.getLast?.map fun x => (x.1.1 : Int)).getD 0
def lastO {es : List (Int × Int)} {v : Int} (pre : List (ArS es v)) : Int := (pre.getLast?.map fun x => x.1.2).getD 0
def stopP {es : List (Int × Int)} {v : Int} (ts : List Bool) (pre : List (ArS es v)) : Prop := ∃ pre0 x0, pre = pre0 ++ [x0] ∧ (∀ x, x ∈ pre0 → eL ts x.1.1 = true) ∧ eL ts x0.1.1 = false
theorem lastE_app {es : List (Int × Int)} {v : Int} (pre : List (ArS es v)) (x : ArS es v) : lastE (pre ++ [x]) = x.1.1 := by simp [lastE]
theorem lastO_app {es : List (Int × Int)} {v : Int} (pre : List (ArS es v)) (x : ArS es v) : lastO (pre ++ [x]) = x.1.2 := by simp [lastO]
theorem ut_none {es : List (Int × Int)} {v : Int} {ts : List Bool} {ys : List (ArS es v)} (hy : ys.map Subtype.val = arF es v) (h : ∀ x, x ∈ ys → eL ts x.1.1 = true) : utF es ts v = none := by
  have hyl : (ys.map fun z => z.1.1) = onL es v := by
    have h := congrArg (List.map Prod.fst) hy
    rw [List.map_map, arF_onL] at h
    exact h
  unfold utF
  rw [List.find?_eq_none]
  intro y hm
  rw [← hyl] at hm
  obtain ⟨x, hx, rfl⟩ := List.mem_map.1 hm
  rw [h x hx]
  decide
theorem ut_some {es : List (Int × Int)} {v : Int} {ts : List Bool} {pre : List (ArS es v)} {k : Nat} (hk : k ≤ es.length) (hy : pre.map Subtype.val = arU es v k) (h : stopP ts pre) : ∃ y : Nat, utF es ts v = some y ∧ lastE pre = y ∧ lastO pre = othE es v y := by
  obtain ⟨pre0, x0, rfl, h1, h2⟩ := h
  refine ⟨x0.1.1, ?_, lastE_app _ _, by rw [lastO_app]; exact x0.2.2.2⟩
  have hyl : ((pre0 ++ [x0]).map fun z => z.1.1) = (List.range k).filter (onE es v) := by
    have h := congrArg (List.map Prod.fst) hy
    rw [List.map_map] at h
    refine h.trans ?_
    unfold arU
    rw [List.map_map]
    exact List.map_id _
  have hsplit : onL es v = (pre0.map fun z => z.1.1) ++ [x0.1.1] ++ ((List.range' k (es.length - k)).filter (onE es v)) := by
    unfold onL
    have hr : List.range es.length = List.range k ++ List.range' k (es.length - k) := by
      rw [List.range_eq_range', List.range_eq_range']
      have := List.range'_append (s := 0) (m := k) (n := es.length - k) (step := 1)
      rw [show k + (es.length - k) = es.length by omega] at this
      simpa using this.symm
    rw [hr, List.filter_append, ← hyl, List.map_append]
    rfl
  unfold utF
  rw [hsplit, List.append_assoc, List.find?_append]
  have hn : (pre0.map fun z => z.1.1).find? (fun y => !eL ts y) = none := by
    rw [List.find?_eq_none]
    intro y hm
    obtain ⟨x, hx, rfl⟩ := List.mem_map.1 hm
    rw [h1 x hx]
    decide
  rw [hn]
  simp [h2]

set_option maxRecDepth 100000 in
set_option maxHeartbeats 8000000 in
theorem iUntaken_any (s : Int) (b off n c gT V : Nat) (es : List (Int × Int)) (ts : List Bool) (w : World) (hn : es.length = n) (hn30 : n ≤ 30) (hbl : b < w.heap.size) (hr : ReadsE w b off es) (ht : OwnB w gT n ts) (hl : ts.length = n) :
    Calls Try.prog 173 #[.agg #[.int .i64 s, .slice (some ⟨b, off, none⟩) n c], .int .i64 V, .slice (some ⟨gT, 0, none⟩) n n] w fun e' w' => (match utF es ts V with | some y => e' = .returned (.tuple #[.int .i64 y, .int .i64 (othE es V y), .bool true]) | none => e' = .returned (.tuple #[.int .i64 0, .int .i64 0, .bool false])) ∧ Below w.heap.size w w' := by
  have Hn := hid hn
  have Hr := hid hr
  have Ht := hid ht
  have Hl := hid hl
  have hgT := ht.lt
  obtain ⟨R, hR⟩ : ∃ R, utF es ts V = R := ⟨_, rfl⟩
  have HR := hid hR
  rw [hR]
  clear hn hr ht hl hR
  refine (callsIn_wide (n := 6)).1 ?_
  refine callsIn_of_wp_marks Try.func173 rfl trivial ?_ rfl
  simp only [Try.ntmps173, List.size_toArray, List.length_cons, List.length_nil, Nat.reduceAdd, Nat.reduceSub, Array.replicate_succ, Array.replicate_zero, List.push_toArray, List.append_toArray, List.nil_append, List.cons_append]
  gi_wp2_with (refine ⟨trivial, ?_⟩; gi_at_call 123; refine (callsIn_wide.2 (iAround_any _ _ _ _ _ _)).mono ?_; rintro e w' ⟨rfl, rfl⟩)
  obtain ⟨W0, hW0⟩ : ∃ W0 : World, W0 = (((((((w.alloc (.cells #[.int .i64 s, .slice (some ⟨b, off, none⟩) n c] 30)).alloc (.cells #[.slice (some ⟨gT, 0, none⟩) n n] 106)).alloc (.cells #[.int .i64 0] 2)).alloc (.cells #[.int .i64 0] 2)).alloc (.cells #[.bool false] 4)).alloc (.cells #[.int .i64 s, .slice (some ⟨b, off, none⟩) n c] 30)).alloc (.cells #[.int .i64 V] 2)) := ⟨_, rfl⟩
  rw [← hW0]
  have hB0 : Below w.heap.size w W0 := by rw [hW0]; exact bfrom (bfrom (bfrom (bfrom (bfrom (bfrom (on_alloc _ _) (on_alloc _ _)) (on_alloc _ _)) (on_alloc _ _)) (on_alloc _ _)) (on_alloc _ _)) (on_alloc _ _)
  have hsz : W0.heap.size = w.heap.size + 7 := by rw [hW0]; simp
  have b1 : Boxed W0 (w.heap.size + 1) 106 (.slice (some ⟨gT, 0, none⟩) n n) := by rw [hW0]; exact (((((boxed_at _ _ _ _ (by simp)).alloc _).alloc _).alloc _).alloc _).alloc _
  have b2 : Boxed W0 (w.heap.size + 1 + 1) 2 (.int .i64 0) := by rw [hW0]; exact ((((boxed_at _ _ _ _ (by simp)).alloc _).alloc _).alloc _).alloc _
  have b3 : Boxed W0 (w.heap.size + 1 + 1 + 1) 2 (.int .i64 0) := by rw [hW0]; exact (((boxed_at _ _ _ _ (by simp)).alloc _).alloc _).alloc _
  have b4 : Boxed W0 (w.heap.size + 1 + 1 + 1 + 1) 4 (.bool false) := by rw [hW0]; exact ((boxed_at _ _ _ _ (by simp)).alloc _).alloc _
  have hbG : W0.cell? ⟨w.heap.size + 1 + 1 + 1 + 1 + 1, 1, none⟩ = some (.slice (some ⟨b, off, none⟩) n c) := by rw [hW0]; exact ((box_at _ _ _ _ _ _ _ (by simp)).on (on_alloc _ _)).2
  have hbV : W0.cell? ⟨w.heap.size + 1 + 1 + 1 + 1 + 1 + 1, 0, none⟩ = some (.int .i64 V) := by rw [hW0]; exact (boxed_at _ _ _ _ (by simp)).cell
  clear hW0
  refine wpIn_rangeFunc_ownG (n := 6) rfl (by omega) (gf := 152) (lb := #[.pointer (some ⟨w.heap.size + 1 + 1 + 1 + 1 + 1, 0, none⟩), .pointer (some ⟨w.heap.size + 1 + 1 + 1 + 1 + 1 + 1, 0, none⟩)]) rfl trivial (enters_of Try.func152 (by kernel_rfl) rfl)
    (aroundS_stops 5 (by omega) (w.heap.size + 1 + 1 + 1 + 1 + 1) (w.heap.size + 1 + 1 + 1 + 1 + 1 + 1) w.heap.size b off n c V es Hn.out hn30 hbl W0 (by omega) hbG hbV (by omega) (by omega) (Hr.out.on hB0)) kpB_t (kpB_b (by omega) (by omega)) (Below.refl _ _) (fun _ => rfl)
    (fun (pre : List (ArS es V)) W => (∀ x, x ∈ pre → eL ts x.1.1 = true) ∧ Boxed W (w.heap.size + 1) 106 (.slice (some ⟨gT, 0, none⟩) n n) ∧ Boxed W (w.heap.size + 1 + 1) 2 (.int .i64 0) ∧ Boxed W (w.heap.size + 1 + 1 + 1) 2 (.int .i64 0) ∧ Boxed W (w.heap.size + 1 + 1 + 1 + 1) 4 (.bool false) ∧ Below w.heap.size w W)
    (fun c' pre W => (c' = .ret ∧ stopP ts pre) ∧ Boxed W (w.heap.size + 1 + 1) 2 (.int .i64 (lastE pre)) ∧ Boxed W (w.heap.size + 1 + 1 + 1) 2 (.int .i64 (lastO pre)) ∧ Boxed W (w.heap.size + 1 + 1 + 1 + 1) 4 (.bool true) ∧ Below w.heap.size w W)
    (OwnFrom.and (ownFrom_pure _ _) (OwnFrom.and (Own.from (boxed_own _ _ (fun _ => _)) _) (OwnFrom.and (Own.from (boxed_own _ _ (fun _ => _)) _) (OwnFrom.and (Own.from (boxed_own _ _ (fun _ => _)) _) (OwnFrom.and (Own.from (boxed_own _ _ (fun _ => _)) _) (ownFrom_below (Nat.le_refl _) (by omega)))))))
    (fun c' => OwnFrom.and (ownFrom_pure _ (fun pre => c' = .ret ∧ stopP ts pre)) (OwnFrom.and (Own.from (boxed_own _ _ (fun pre => .int .i64 (lastE pre))) _) (OwnFrom.and (Own.from (boxed_own _ _ (fun pre => .int .i64 (lastO pre))) _) (OwnFrom.and (Own.from (boxed_own _ _ (fun _ => _)) _) (ownFrom_below (Nat.le_refl _) (by omega))))))
    ⟨fun x hx => by simp at hx, b1, b2, b3, b4, hB0⟩
    (fun x => { tmps := #[.agg #[.int .i64 s, .slice (some ⟨b, off, none⟩) n c], .int .i64 V, .slice (some ⟨gT, 0, none⟩) n n, .pointer (some ⟨w.heap.size, 0, none⟩), undef, .pointer (some ⟨w.heap.size + 1, 0, none⟩), .pointer (some ⟨w.heap.size + 1 + 1, 0, none⟩), .pointer (some ⟨w.heap.size + 1 + 1 + 1, 0, none⟩), .pointer (some ⟨w.heap.size + 1 + 1 + 1 + 1, 0, none⟩), .int .i64 (x.1.1 : Int), .int .i64 x.1.2, .agg #[.int .i64 s, .slice (some ⟨b, off, none⟩) n c], .int .i64 V, .func (.func 152) #[] #[.pointer (some ⟨w.heap.size + 1 + 1 + 1 + 1 + 1, 0, none⟩), .pointer (some ⟨w.heap.size + 1 + 1 + 1 + 1 + 1 + 1, 0, none⟩)], .int .i64 (x.1.1 : Int), .int .i64 x.1.2, undef, undef, undef, undef, undef, undef, undef], defers := [] }) ?assign ?body ?done ?stop
  case assign =>
    intro l x W K hK
    gi_wp2
    exact hK
  case body =>
    rintro l pre ⟨⟨f, u⟩, hfl, hfo, hfu⟩ W ⟨hp, h1, h2, h3, h4, hB⟩ hlt
    have HP := hid hp
    have hfm : f < n := by have := Hn.out; omega
    have hfm' : (f : Int) < (n : Int) := by omega
    have hc1 := h1.cell
    have hc2 := h2.cell
    have hc3 := h3.cell
    have hc4 := h4.cell
    have hf2 := h2.frozen
    have hf3 := h3.frozen
    have hf4 := h4.frozen
    have hcs := (Ht.out.on hB).cell (i := f) (by rw [Hl.out]; exact hfm)
    have hgTW : gT < W.heap.size := by have := hB.size; omega
    obtain ⟨z, hz⟩ : ∃ z, eL ts f = z := ⟨_, rfl⟩
    rw [hz] at hcs
    have HZ := hid hz
    clear hp hz
    cases z
    · gi_wp2
      refine ⟨((KeepsOthers.setCell W _ _).trans ((KeepsOthers.setCell _ _ _).trans (KeepsOthers.setCell _ _ _))).from _, ⟨rfl, pre, ⟨(f, u), ⟨hfl, hfo, hfu⟩⟩, rfl, HP.out, HZ.out⟩, ?_, ?_, ?_, ?_⟩
      · rw [lastE_app]
        exact ((Boxed.set _ h2).other (by omega) _).other (by omega) _
      · rw [lastO_app]
        exact (Boxed.set _ (h3.other (by omega) _)).other (by omega) _
      · exact Boxed.set _ ((h4.other (by omega) _).other (by omega) _)
      · exact ((hB.setCell (p := ⟨w.heap.size + 1 + 1, 0, none⟩) (by show w.heap.size ≤ w.heap.size + 1 + 1; omega) _).setCell (p := ⟨w.heap.size + 1 + 1 + 1, 0, none⟩) (by show w.heap.size ≤ w.heap.size + 1 + 1 + 1; omega) _).setCell (p := ⟨w.heap.size + 1 + 1 + 1 + 1, 0, none⟩) (by show w.heap.size ≤ w.heap.size + 1 + 1 + 1 + 1; omega) _
    · gi_wp2
      refine ⟨KeepsFrom.refl _ _, ⟨Below.refl _ _, rfl⟩, fun x hx => ?_, h1, h2, h3, h4, hB⟩
      rcases List.mem_append.1 hx with hx | hx
      · exact HP.out x hx
      · obtain rfl : x = ⟨(f, u), _⟩ := by simpa using hx
        exact HZ.out
  case done =>
    rintro D ys W hD hys ⟨hp, _, h2, h3, h4, hB⟩ hK
    have hnone := ut_none hys hp
    rw [HR.out] at hnone
    subst hnone
    have hc2 := h2.cell
    have hc3 := h3.cell
    have hc4 := h4.cell
    have hf2 := h2.frozen
    have hf3 := h3.frozen
    have hf4 := h4.frozen
    gi_wp2
    refine ⟨by simp, .inl ⟨_, _, rfl, run_takeDeferred (((KeepsOthers.setCell W ⟨w.heap.size + 1 + 1, 0, none⟩ _).trans ((KeepsOthers.setCell _ ⟨w.heap.size + 1 + 1 + 1, 0, none⟩ _).trans (KeepsOthers.setCell _ ⟨w.heap.size + 1 + 1 + 1 + 1, 0, none⟩ _))).same D _ hK rfl), ?_⟩⟩
    have hK3 := ((KeepsOthers.setCell W ⟨w.heap.size + 1 + 1, 0, none⟩ (.int .i64 0)).trans ((KeepsOthers.setCell _ ⟨w.heap.size + 1 + 1 + 1, 0, none⟩ (.int .i64 0)).trans (KeepsOthers.setCell _ ⟨w.heap.size + 1 + 1 + 1 + 1, 0, none⟩ (.bool false)))).same D _ hK rfl
    have k2 := ((Boxed.set (.int .i64 0) h2).other (B' := w.heap.size + 1 + 1 + 1) (by omega) (.int .i64 0)).other (B' := w.heap.size + 1 + 1 + 1 + 1) (by omega) (.bool false)
    have k3 := (Boxed.set (.int .i64 0) (h3.other (B' := w.heap.size + 1 + 1) (by omega) (.int .i64 0))).other (B' := w.heap.size + 1 + 1 + 1 + 1) (by omega) (.bool false)
    have k4 := Boxed.set (.bool false) ((h4.other (B' := w.heap.size + 1 + 1) (by omega) (.int .i64 0)).other (B' := w.heap.size + 1 + 1 + 1) (by omega) (.int .i64 0))
    have kB := ((hB.setCell (p := ⟨w.heap.size + 1 + 1, 0, none⟩) (by show w.heap.size ≤ w.heap.size + 1 + 1; omega) (.int .i64 0)).setCell (p := ⟨w.heap.size + 1 + 1 + 1, 0, none⟩) (by show w.heap.size ≤ w.heap.size + 1 + 1 + 1; omega) (.int .i64 0)).setCell (p := ⟨w.heap.size + 1 + 1 + 1 + 1, 0, none⟩) (by show w.heap.size ≤ w.heap.size + 1 + 1 + 1 + 1; omega) (.bool false)
    exact ⟨_, results_three rfl _ _ (w.heap.size + 1 + 1) (w.heap.size + 1 + 1 + 1) (w.heap.size + 1 + 1 + 1 + 1) _ _ _ rfl rfl rfl (k2.kept (grownBy_putObj' _ D (.deferred none)) (fun e => by have := Option.some.inj e; omega)) (k3.kept (grownBy_putObj' _ D (.deferred none)) (fun e => by have := Option.some.inj e; omega)) (k4.kept (grownBy_putObj' _ D (.deferred none)) (fun e => by have := Option.some.inj e; omega)), rfl, kB.trans (belowK_b (w := w) (Nat.le_refl _) _ D _ _ (by omega) hK3 rfl rfl)⟩
  case stop =>
    rintro D c' pre W hD ⟨k, hk, hpre⟩ ⟨⟨rfl, hst⟩, h2, h3, h4, hB⟩ hK
    obtain ⟨y, hy1, hy2, hy3⟩ := ut_some (by rw [Hn.out]; exact hk) hpre hst
    rw [HR.out] at hy1
    subst hy1
    rw [hy2] at h2
    rw [hy3] at h3
    gi_wp2
    refine ⟨by simp, .inl ⟨_, _, rfl, run_takeDeferred hK, ?_⟩⟩
    exact ⟨_, results_three rfl _ _ (w.heap.size + 1 + 1) (w.heap.size + 1 + 1 + 1) (w.heap.size + 1 + 1 + 1 + 1) _ _ _ rfl rfl rfl (h2.kept (grownBy_putObj' _ D (.deferred none)) (fun e => by have := Option.some.inj e; omega)) (h3.kept (grownBy_putObj' _ D (.deferred none)) (fun e => by have := Option.some.inj e; omega)) (h4.kept (grownBy_putObj' _ D (.deferred none)) (fun e => by have := Option.some.inj e; omega)), rfl, hB.trans (belowK_b (w := w) (Nat.le_refl _) W D _ _ (by omega) hK rfl rfl)⟩

end Go.Proofs.Ythacpadadccioaa

/- One cycle that a matching leaves, taken by the program: takeCycle. -/
namespace Go.Proofs.Ythacpadadccioaa
open Go.RowKit

/-- What is taken while the cycle of k is gone round. -/
def tjL (es : List (Int × Int)) (ok : Nat → Bool) (nx : Int → Nat → Nat) (k j : Nat) : List Bool := (List.range es.length).map fun f => !ok f || (metC es ok nx k f || decide ((f : Int) ∈ cyP es nx k j))
def tkL (es : List (Int × Int)) (ok : Nat → Bool) (nx : Int → Nat → Nat) (k : Nat) : List Bool := (List.range es.length).map fun f => !ok f || metC es ok nx k f
section
variable {s : Int} {es : List (Int × Int)} {ok : Nat → Bool} {nx : Int → Nat → Nat}
theorem tjL_len (es : List (Int × Int)) (ok : Nat → Bool) (nx : Int → Nat → Nat) (k j : Nat) : (tjL es ok nx k j).length = es.length := by simp [tjL]
theorem tkL_len (es : List (Int × Int)) (ok : Nat → Bool) (nx : Int → Nat → Nat) (k : Nat) : (tkL es ok nx k).length = es.length := by simp [tkL]
theorem tjL_at {k j f : Nat} (hf : f < es.length) : eL (tjL es ok nx k j) f = (!ok f || (metC es ok nx k f || decide ((f : Int) ∈ cyP es nx k j))) := by
  unfold tjL
  rw [eL_lt (by simpa using hf)]
  simp
theorem tkL_at {k f : Nat} (hf : f < es.length) : eL (tkL es ok nx k) f = (!ok f || metC es ok nx k f) := by
  unfold tkL
  rw [eL_lt (by simpa using hf)]
  simp
theorem tjL_zero (k : Nat) : tjL es ok nx k 0 = tkL es ok nx k := by
  refine bools_ext (by rw [tjL_len, tkL_len]) fun f hf => ?_
  rw [tjL_len] at hf
  rw [tjL_at hf, tkL_at hf]
  simp [cyP]
theorem tjL_step {k j : Nat} (hf : (wyS es nx k j).1 < es.length) : (tjL es ok nx k j).set (wyS es nx k j).1 true = tjL es ok nx k (j + 1) := by
  refine bools_ext (by rw [List.length_set, tjL_len, tjL_len]) fun f hf2 => ?_
  rw [List.length_set, tjL_len] at hf2
  rw [eL_set (by rw [tjL_len]; exact hf), tjL_at hf2, tjL_at hf2, cyP_succ]
  by_cases e : f = (wyS es nx k j).1
  · rw [if_pos e]
    simp [e]
  · rw [if_neg e]
    have : ¬ (f : Int) = ((wyS es nx k j).1 : Int) := by omega
    simp [this]
theorem tjL_end {k : Nat} (h : leadC es ok nx k = true) : tjL es ok nx k (cyK es nx k) = tkL es ok nx (k + 1) := by
  unfold leadC at h
  rw [Bool.and_eq_true] at h
  refine bools_ext (by rw [tjL_len, tkL_len]) fun f hf => ?_
  rw [tjL_len] at hf
  rw [tjL_at hf, tkL_at hf, metC_succ, h.1, Bool.true_and]
  rfl
theorem tkL_old (G : TwoG s es ok nx) {k : Nat} (h : leadC es ok nx k = false) : tkL es ok nx (k + 1) = tkL es ok nx k := by
  refine bools_ext (by rw [tkL_len, tkL_len]) fun f hf => ?_
  rw [tkL_len] at hf
  rw [tkL_at hf, tkL_at hf, metC_old G h]
theorem tkL_lead {k : Nat} (hk : k < es.length) : (!eL (tkL es ok nx k) k) = leadC es ok nx k := by
  rw [tkL_at hk]
  unfold leadC
  cases ok k <;> cases metC es ok nx k k <;> rfl

theorem find_first {p : Nat → Bool} {L : List Nat} (hs : L.Pairwise (· < ·)) {x : Nat} (hx : x ∈ L) (hp : p x = true) (hlow : ∀ y, y ∈ L → p y = true → x ≤ y) : L.find? p = some x := by
  cases hf : L.find? p with
  | none =>
    have := List.find?_eq_none.1 hf x hx
    rw [hp] at this
    exact absurd rfl this
  | some y =>
    have hy := List.find?_some hf
    have hm := List.mem_of_find?_eq_some hf
    have h1 := hlow y hm hy
    rcases Nat.lt_or_ge x y with h2 | h2
    · obtain ⟨_, us, vs, hab, hall⟩ := List.find?_eq_some_iff_append.1 hf
      rw [hab] at hx hs
      rcases List.mem_append.1 hx with h3 | h3
      · have := hall x h3
        rw [hp] at this
        exact absurd this (by decide)
      · rcases List.mem_cons.1 h3 with h4 | h4
        · omega
        · have h5 := (List.pairwise_cons.1 (List.pairwise_append.1 hs).2.1).1 x h4
          omega
    · rw [show y = x by omega]
theorem onL_sorted (es : List (Int × Int)) (v : Int) : (onL es v).Pairwise (· < ·) := List.Pairwise.filter _ List.pairwise_lt_range

/-- At the first end of a new edge it is the first one that is not taken. -/
theorem ut_start (G : TwoG s es ok nx) {k : Nat} (h : leadC es ok nx k = true) : utF es (tjL es ok nx k 0) (eA es k) = some k := by
  have hk : ok k = true := by unfold leadC at h; rw [Bool.and_eq_true] at h; exact h.1
  have hm : metC es ok nx k k = false := by unfold leadC at h; rw [Bool.and_eq_true] at h; simpa using h.2
  have hkl := G.lt k hk
  have hon : onE es (eA es k) k = true := by simp [onE]
  refine find_first (onL_sorted _ _) (onL_mem.2 ⟨hkl, hon⟩) (by rw [tjL_at hkl, hk, hm]; simp [cyP]) fun y hy hp => ?_
  obtain ⟨hyl, hyo⟩ := onL_mem.1 hy
  rcases Nat.lt_or_ge y k with h1 | h1
  · exfalso
    rw [tjL_at hyl] at hp
    have hoy : ok y = true := by
      cases ho : ok y
      · rw [ho] at hp; simp at hp
      · rfl
    have : metC es ok nx k k = true := (metC_iff G).2 ⟨y, h1, hoy, (WyIn.refl es ok y).next hoy hk hyo hon⟩
    rw [hm] at this
    exact absurd this (by decide)
  · exact h1
/-- Behind j edges the next one is the only one that is not taken, or none is. -/
theorem ut_next (G : TwoG s es ok nx) {k j : Nat} (h : leadC es ok nx k = true) (hj : j < cyK es nx k) : utF es (tjL es ok nx k (j + 1)) (wyS es nx k j).2 = if j + 1 = cyK es nx k then none else some (wyS es nx k (j + 1)).1 := by
  have hk : ok k = true := by unfold leadC at h; rw [Bool.and_eq_true] at h; exact h.1
  obtain ⟨h1, h2, h3, h4⟩ := cyK_spec G hk
  have hv := wyS_ok G hk j
  obtain ⟨n1, n2, n3⟩ := G.nx_ok _ _ hv.ok hv.on
  have hS1 : (wyS es nx k (j + 1)).1 = nx (wyS es nx k j).2 (wyS es nx k j).1 := rfl
  have taken : ∀ y, y < es.length → onE es (wyS es nx k j).2 y = true → y ≠ (wyS es nx k (j + 1)).1 → eL (tjL es ok nx k (j + 1)) y = true := by
    intro y hyl hyo hne
    rw [tjL_at hyl]
    cases ho : ok y
    · simp
    · rcases G.one _ _ _ hv.ok ho hv.on hyo with e | e
      · have : (y : Int) ∈ cyP es nx k (j + 1) := cyP_mem.2 ⟨j, by omega, e.symm⟩
        simp [this]
      · exact absurd e hne
  have hnow : eL (tjL es ok nx k (j + 1)) (wyS es nx k (j + 1)).1 = decide (j + 1 = cyK es nx k) := by
    rw [tjL_at (G.lt _ (wyS_ok G hk (j + 1)).ok), (wyS_ok G hk (j + 1)).ok]
    have := mjL_now G h (j := j + 1) (by omega)
    rw [mjL_at (G.lt _ (wyS_ok G hk (j + 1)).ok)] at this
    simpa using this
  by_cases e : j + 1 = cyK es nx k
  · rw [if_pos e]
    unfold utF
    rw [List.find?_eq_none]
    intro y hy
    obtain ⟨hyl, hyo⟩ := onL_mem.1 hy
    by_cases e2 : y = (wyS es nx k (j + 1)).1
    · rw [e2, hnow, decide_eq_true e]
      decide
    · rw [taken y hyl hyo e2]
      decide
  · rw [if_neg e]
    refine find_first (onL_sorted _ _) (onL_mem.2 ⟨G.lt _ (wyS_ok G hk (j + 1)).ok, n2⟩) (by rw [hnow, decide_eq_false e]; rfl) fun y hy hp => ?_
    obtain ⟨hyl, hyo⟩ := onL_mem.1 hy
    by_cases e2 : y = (wyS es nx k (j + 1)).1
    · omega
    · rw [taken y hyl hyo e2] at hp
      exact absurd hp (by decide)
end

def lenT : Value → Nat | .slice _ n _ => n | _ => 0
theorem Box.keepT {w w' : World} {B n c : Nat} {s : Int} {p : Option Addr} (h : Box w B s p n c) (hk : w'.heap[B]? = w.heap[B]?) : Box w' B s p n c :=
  ⟨(World.cell?_of_block (w := w) (a := ⟨B, 0, none⟩) hk).trans h.1, (World.cell?_of_block (w := w) (a := ⟨B, 1, none⟩) hk).trans h.2⟩

set_option maxRecDepth 100000 in
set_option maxHeartbeats 16000000 in
theorem iTake_any (N b off n c gT k : Nat) (es : List (Int × Int)) (ok : Nat → Bool) (nx : Int → Nat → Nat) (w : World) (hn : es.length = n) (hbl : b < w.heap.size) (hbT : b ≠ gT) (hr : ReadsE w b off es) (T0 : TwoG N es ok nx) (hld : leadC es ok nx k = true) (ht : OwnB w gT n (tkL es ok nx k)) :
    Calls Try.prog 150 #[.agg #[.int .i64 N, .slice (some ⟨b, off, none⟩) n c], .int .i64 (eA es k), .slice (some ⟨gT, 0, none⟩) n n] w fun e' w' => ∃ q cap, e' = .returned (.slice q (cyL es nx k).length cap) ∧ FreshI w.heap.size w' q (cyL es nx k).length cap (cyL es nx k) ∧ OwnB w' gT n (tkL es ok nx (k + 1)) ∧ Kept (fun i => i < w.heap.size ∧ i ≠ gT) w w' := by
  have hn30 : n ≤ 30 := by have := isG_len T0.g; omega
  have hok : ok k = true := by unfold leadC at hld; rw [Bool.and_eq_true] at hld; exact hld.1
  have hkl := T0.lt k hok
  have hE := (endsIn_of T0.g k hkl)
  obtain ⟨V0, hV0⟩ : ∃ V0 : Nat, eA es k = V0 := ⟨_, (Int.toNat_of_nonneg hE.1.1).symm⟩
  obtain ⟨K, hK⟩ : ∃ K, cyK es nx k = K := ⟨_, rfl⟩
  obtain ⟨hK0, hKn, _, _⟩ := cyK_spec T0 hok
  rw [hK] at hK0 hKn
  have hK30 : K ≤ 30 := by omega
  have hgT := ht.lt
  have Hn := hid hn
  have Hr := hid hr
  have T := hid T0
  have HLd := hid hld
  have HOK := hid hok
  have HKc := hid hK
  have HVA := hid hV0
  have hut0 := ut_start T0 hld
  rw [hV0] at hut0 ⊢
  have HU0 := hid hut0
  have HO0 := hid (show othE es V0 k = eB es k by unfold othE; rw [hV0]; omega)
  obtain ⟨Y, hY⟩ : ∃ Y : Nat, eB es k = Y := ⟨_, (Int.toNat_of_nonneg hE.2.1).symm⟩
  have HY := hid hY
  have Ht := hid (show OwnB w gT n (tjL es ok nx k 0) by rw [tjL_zero]; exact ht)
  have hlen : (cyL es nx k).length = K := by unfold cyL; rw [cyP_len, hK]
  rw [hlen]
  have HLen := hid hlen
  obtain ⟨j0, hj, hy0, hy1, hy2⟩ := info_parts infoInt
  have Hj := hid hj
  clear hn hr T0 hld hok hkl hE hV0 hK hKn ht hut0 hY hlen hj
  go_enter Try.func150, Try.ntmps150
  have HX0 := hid (Box.new w N (some ⟨b, off, none⟩) n c 30)
  have HB0 := hid (on_alloc w (.cells #[.int .i64 N, .slice (some ⟨b, off, none⟩) n c] 30))
  obtain ⟨w2, hw2⟩ : ∃ w2, w2 = w.alloc (.cells #[.int .i64 N, .slice (some ⟨b, off, none⟩) n c] 30) := ⟨_, rfl⟩
  rw [← hw2] at HX0 HB0
  have hz2' := HX0.out.lt
  have hs2 := HB0.out.size
  have hw2s : w2.heap.size = w.heap.size + 1 := by rw [hw2]; simp
  go_wp2_with fail
  rw [← hw2]
  clear hw2
  refine (iUntaken_any N b off n c gT V0 es (tjL es ok nx k 0) _ Hn.out hn30 (by omega) (Hr.out.on HB0.out) (Ht.out.on HB0.out) (by rw [tjL_len, Hn.out])).mono ?_
  rw [HU0.out]
  dsimp only
  rw [HO0.out, HY.out]
  rintro e' w3 ⟨rfl, hb3⟩
  have HB3 := hid hb3
  have HX3 := hid (HX0.out.on hb3)
  have HT3 := hid ((Ht.out.on HB0.out).on hb3)
  have HR3 := hid (World.ownsRow_nil w3 (w.heap.size + 1) 2 1)
  have hw3s := hb3.size
  clear hb3
  go_wp2
  go_loopw [7, 8, 9, 10] (fun u v z t wx => ∃ (j cc F V : Nat) (q : Option Addr) (fd : Bool), j ≤ K ∧ u = .slice q j cc ∧ v = .int .i64 F ∧ z = .int .i64 V ∧ t = .bool fd ∧ Hid (fd = decide (j < K) ∧ (j < K → (wyS es nx k j).1 = F ∧ (wyS es nx k j).2 = V)) ∧ Hid (wx.ownsRow (w.heap.size + 1) 2 1 (.slice q j cc) j (intVals (cyP es nx k j)) ∧ OwnB wx gT n (tjL es ok nx k j)) ∧ Hid (Kept (fun i => i < w2.heap.size ∧ i ≠ gT) w2 wx)) (fun u _ _ _ _ => K - lenT u)
  case atStart => exact ⟨0, 0, k, Y, none, true, by omega, rfl, rfl, rfl, rfl, hid ⟨by rw [decide_eq_true hK0], fun _ => ⟨rfl, HY.out⟩⟩, hid ⟨HR3.out, HT3.out⟩, hid ((Kept.refl _ w2).call HB3.out)⟩
  case round =>
    obtain ⟨j, cc, F, V, q, fd, hj, rfl, rfl, rfl, rfl, hS, hOM, hKp⟩ := hrel
    clear HR3 HT3
    have hszx := hKp.out.size
    by_cases hlt : j < K
    · obtain ⟨hfd, hSS⟩ := hS.out
      rw [decide_eq_true hlt] at hfd
      subst hfd
      obtain ⟨hS1, hS2⟩ := hSS hlt
      have HS1 := hid hS1
      have HS2 := hid hS2
      have hV := wyS_ok T.out HOK.out j
      have hFl : F < es.length := by have := T.out.lt _ hV.ok; rw [hS1] at this; exact this
      have HFl := hid hFl
      have hFn : F < n := by have := Hn.out; omega
      have hFn' : (F : Int) < (n : Int) := by omega
      have hcF := hOM.out.2.cell (i := F) (by rw [tjL_len]; exact hFl)
      have hfF := hOM.out.2.free F
      have hgTx := hOM.out.2.lt
      obtain ⟨z, hz⟩ : ∃ z, eL (tjL es ok nx k j) F = z := ⟨_, rfl⟩
      rw [hz] at hcF
      have hun := ut_next T.out HLd.out (j := j) (by rw [HKc.out]; exact hlt)
      rw [hS2, HKc.out] at hun
      have HUn := hid hun
      have hrow : ∀ j', (Value.slice q j cc).ownBlock = some j' → w.heap.size + 1 ≤ j' ∧ j' < wr.heap.size := hOM.out.1.lt
      clear hS hSS hS1 hS2 hV hFl hz hun
      obtain ⟨wi, rfl⟩ : ∃ wi : World, wi = wr := ⟨_, rfl⟩
      have HSz := hid (show (wi.setCell ⟨gT, F, none⟩ (.bool true)).heap.size = wi.heap.size by simp [World.setCell])
      have HRow := hid (World.ownsRow.alloc (hOM.out.1.kept (gset (World.grownBy.refl wi (some gT)) F (.bool true)) (by
        by_cases h : (Value.slice q j cc).ownBlock = some gT
        · have := (hrow _ h).1; omega
        · exact .inr h)) (.cells #[.int .i64 F] 2))
      have HNew := hid (show ((wi.setCell ⟨gT, F, none⟩ (.bool true)).alloc (.cells #[.int .i64 F] 2)).heap[wi.heap.size]? = some (.cells #[.int .i64 F] 2 (0, 0)) by rw [← HSz.out]; exact heap_alloc_new _ _)
      have hj31 : j + 1 ≤ 31 := by omega
      go_wp2_with (at_builtin; go_must (refine wpList_append_lies _ rfl (.tmp 31) (.tmp 33) 44 rfl (w.heap.size + 1) 2 j0 (.int .i64 0) 1 8 Try.underlying44 Hj.out hy0 hy1 hy2 rfl (by decide) (.slice q j cc) j _ rfl HRow.out ⟨wi.heap.size, 0, none⟩ 1 1 [.int .i64 F] rfl rfl (World.news_of_block (cs := #[.int .i64 F]) (t := 2) (fr := (0, 0)) HNew.out) (by simp [Value.oneCell']) (by decide) (by unfold maxLen; omega) (by omega) (by rw [World.size_alloc, HSz.out]; omega) (wi.heap.size + 1) (by rw [World.size_alloc, HSz.out]) ?_); intro g7 cap7 w7 hown7 hgrow7 hlie7 hg7; have Hown7 := hid hown7; have Hgrow7 := hid hgrow7; have hKp7 : Kept (fun i => i < w2.heap.size ∧ i ≠ gT) w2 w7 := ((hKp.out.set (a := ⟨gT, F, none⟩) (fun h => h.2 rfl) (.bool true)).call (on_alloc _ (.cells #[.int .i64 F] 2))).row hgrow7 (fun r e h => by have h1 := h.1; have h2 := (hrow r e).1; omega); have HKp7 := hid hKp7; have hX7 := HX0.out.keepT (hKp7.same w.heap.size ⟨by omega, by omega⟩ (by omega)); have HX7 := hid hX7; have hx7 := hX7.1; have hy7 := hX7.2; have hz7 := hX7.lt; clear hown7 hgrow7 hlie7 hX7 hKp7)
      have HOM7 := hid (show OwnB w7 gT n (tjL es ok nx k (j + 1)) by
        rw [← tjL_step (by rw [HS1.out]; exact HFl.out), HS1.out]
        exact ((OwnB.set hOM.out.2 (by rw [tjL_len]; exact HFl.out) true).alloc (.cells #[.int .i64 F] 2)).keep (Hgrow7.out.block gT (by rw [World.size_alloc, HSz.out]; omega) (fun e => by have := (hrow _ e.symm).1; omega)))
      have hcy : intVals (cyP es nx k j) ++ [.int .i64 (F : Int)] = intVals (cyP es nx k (j + 1)) := by rw [cyP_succ, intVals_append, HS1.out]; rfl
      have HOc7 := hid (show w7.ownsRow (w.heap.size + 1) 2 1 (.slice (some ⟨g7, 0, none⟩) (j + 1) cap7) (j + 1) (intVals (cyP es nx k (j + 1))) by rw [← hcy]; exact Hown7.out)
      have HRe7 := hid (show ReadsE w7 b off es from (Hr.out.on HB0.out).keep (HKp7.out.same b ⟨by omega, hbT⟩ (by omega)))
      have hb7 : b < w7.heap.size := by have := HKp7.out.size; omega
      clear hcy hx7 hy7 hz7
      refine (iUntaken_any N b off n c gT V es (tjL es ok nx k (j + 1)) _ Hn.out hn30 hb7 HRe7.out HOM7.out (by rw [tjL_len, Hn.out])).mono ?_
      rw [HUn.out]
      by_cases hend : j + 1 = K
      · rw [if_pos hend]
        dsimp only
        rintro e' w8 ⟨rfl, hb8⟩
        have HB8 := hid hb8
        have HEnd := hid hend
        clear hb8 hend
        go_wp2
        go_roundw
        case rel => exact ⟨j + 1, cap7, 0, 0, some ⟨g7, 0, none⟩, false, by omega, rfl, rfl, rfl, rfl, hid ⟨by rw [decide_eq_false (by have := HEnd.out; omega)], fun h => by have := HEnd.out; omega⟩, hid ⟨HOc7.out.kept (below_grown HB8.out) (Or.inr (by intro h; cases h)), HOM7.out.on HB8.out⟩, hid (HKp7.out.call HB8.out)⟩
        case measure => simp [lenT]; omega
      · rw [if_neg hend]
        dsimp only
        have hj2 : j + 1 < K := by omega
        have hs2' : othE es V (wyS es nx k (j + 1)).1 = (wyS es nx k (j + 1)).2 := by rw [← HS2.out]; rfl
        have hv2 := wyS_rng T.out (wyS_ok T.out HOK.out (j + 1))
        rw [hs2']
        obtain ⟨F2, hF2⟩ : ∃ F2, (wyS es nx k (j + 1)).1 = F2 := ⟨_, rfl⟩
        obtain ⟨V2, hV2⟩ : ∃ V2 : Nat, (wyS es nx k (j + 1)).2 = V2 := ⟨_, (Int.toNat_of_nonneg hv2.1).symm⟩
        rw [hF2, hV2]
        have HF2 := hid (And.intro hF2 hV2)
        rintro e' w8 ⟨rfl, hb8⟩
        have HB8 := hid hb8
        clear hb8 hend hs2' hv2 hF2 hV2
        go_wp2
        go_roundw
        case rel => exact ⟨j + 1, cap7, F2, V2, some ⟨g7, 0, none⟩, true, by omega, rfl, rfl, rfl, rfl, hid ⟨by rw [decide_eq_true hj2], fun _ => HF2.out⟩, hid ⟨HOc7.out.kept (below_grown HB8.out) (Or.inr (by intro h; cases h)), HOM7.out.on HB8.out⟩, hid (HKp7.out.call HB8.out)⟩
        case measure => simp [lenT]; omega
    · obtain rfl : j = K := by omega
      have hfd := hS.out.1
      rw [decide_eq_false (by omega)] at hfd
      subst hfd
      go_wp2
      go_ret
      have hF : FreshI (w.heap.size + 1) wr q j cc (cyL es nx k) := ⟨by have h := hOM.out.1; unfold cyL; rw [HKc.out]; exact h, HLen.out⟩
      exact ⟨q, cc, rfl, FreshI.less hF (by omega), by have h := hOM.out.2; rw [← HKc.out, tjL_end HLd.out] at h; exact h, ⟨hKp.out.os.trans HB0.out.os, hKp.out.tape.trans HB0.out.tape, hKp.out.output.trans HB0.out.output, by omega, fun i hi hl => (hKp.out.same i ⟨by have := hi.1; omega, hi.2⟩ (by omega)).trans (HB0.out.block i hi.1)⟩⟩

end Go.Proofs.Ythacpadadccioaa

namespace Go.Proofs.Ythacpadadccioaa
open Go.RowKit Go.Shelf

attribute [local go_sem] Oper.semAt_some

attribute [local irreducible] wpStill
theorem infoBz : (Try.prog.info? 4).map (fun i => (i.zero, i.size, i.bytes)) = some (some (.bool false), 1, 1) := by kernel_rfl
theorem own_falses (w : World) (g N : Nat) (hg : g = w.heap.size) (hN : N ≤ 30) : OwnB (w.alloc (.cells (madeCells (Value.bool false).cells (N * 1)) 4)) g N (List.replicate N false) := by
  subst hg
  refine ⟨_, heap_alloc_new w _, by rw [size_madeCells, Nat.mul_one], by simp, by unfold maxLen; omega, fun i hi => ?_⟩
  have hi' : i < N := by simpa using hi
  rw [eL_lt (by simpa using hi')]
  simp [madeCells, hi', Value.cells, Nat.mod_one]

/-- A cycle that is handed on: where it lies, its capacity, its edges. -/
abbrev CyX := Option Addr × Nat × List Int
abbrev encC (x : CyX) : Array Value := #[.slice x.1 x.2.2.length x.2.1]
def XC (n A : Nat) (x : CyX) (W : World) : Prop := SeesI W x.1 x.2.2 ∧ (∀ gx ox, x.1 = some ⟨gx, ox, none⟩ → A ≤ gx) ∧ x.2.2.length ≤ n ∧ ∀ i, i < x.2.2.length → ∃ f : Nat, eI x.2.2 i = f ∧ f < n
theorem cyL_edgesI {s : Int} {es : List (Int × Int)} {ok : Nat → Bool} {nx : Int → Nat → Nat} (G : TwoG s es ok nx) {e : Nat} (hl : leadC es ok nx e = true) {i : Nat} (hi : i < (cyL es nx e).length) : ∃ f : Nat, eI (cyL es nx e) i = f ∧ f < es.length := by
  have he : ok e = true := by
    unfold leadC at hl
    rw [Bool.and_eq_true] at hl
    exact hl.1
  have hm : eI (cyL es nx e) i ∈ cyL es nx e := by rw [eI_lt hi]; exact List.getElem_mem hi
  have hf : ∃ f : Nat, eI (cyL es nx e) i = f := by
    unfold cyL cyP at hm ⊢
    obtain ⟨j, _, hj⟩ := List.mem_map.1 hm
    exact ⟨_, hj.symm⟩
  obtain ⟨f, hf⟩ := hf
  rw [hf] at hm
  exact ⟨f, hf, G.lt f (((cyL_mem G he).1 hm) (fun f => ok f = true) he (fun _ _ _ _ _ hy _ _ => hy))⟩
theorem fresh_from {B A n cap : Nat} {w : World} {q : Option Addr} {xs : List Int} (h : FreshI B w q n cap xs) (hA : A ≤ B) : ∀ gx ox, q = some ⟨gx, ox, none⟩ → A ≤ gx := by
  intro gx ox e
  rcases h.form with ⟨h1, _⟩ | ⟨g', h1, hg', _⟩
  · rw [h1] at e
    cases e
  · rw [h1] at e
    simp only [Option.some.injEq, Addr.mk.injEq] at e
    omega
theorem cyL_lenI {s : Int} {es : List (Int × Int)} {ok : Nat → Bool} {nx : Int → Nat → Nat} {n : Nat} (G : TwoG s es ok nx) {e : Nat} (hl : leadC es ok nx e = true) (hn : es.length = n) : (cyL es nx e).length ≤ n := by
  have he : ok e = true := by
    unfold leadC at hl
    rw [Bool.and_eq_true] at hl
    exact hl.1
  have h := (cyK_spec G he).2.1
  unfold cyL
  rw [cyP_len]
  omega
/-- The marks of a list's first edges. -/
def tsL (es : List (Int × Int)) (xs : List Int) (i : Nat) : List Bool := (List.range es.length).map fun (f : Nat) => decide ((f : Int) ∈ xs.take i)
theorem tsL_len (es : List (Int × Int)) (xs : List Int) (i : Nat) : (tsL es xs i).length = es.length := by simp [tsL]
theorem tsL_at {es : List (Int × Int)} {xs : List Int} {i f : Nat} (hf : f < es.length) : eL (tsL es xs i) f = decide ((f : Int) ∈ xs.take i) := by
  unfold tsL
  rw [eL_lt (by simpa using hf)]
  simp
theorem tsL_zero (es : List (Int × Int)) (xs : List Int) : tsL es xs 0 = List.replicate es.length false := by
  refine bools_ext (by simp [tsL]) fun f hf => ?_
  rw [tsL_len] at hf
  rw [tsL_at hf, eL_lt (by simpa using hf)]
  simp
theorem tsL_step {es : List (Int × Int)} {xs : List Int} {i X : Nat} (hi : i < xs.length) (hX : eI xs i = X) (hXl : X < es.length) : (tsL es xs i).set X true = tsL es xs (i + 1) := by
  refine bools_ext (by rw [List.length_set, tsL_len, tsL_len]) fun f hf => ?_
  rw [List.length_set, tsL_len] at hf
  rw [eL_set (by rw [tsL_len]; exact hXl), tsL_at hf, tsL_at hf, List.take_add_one, List.getElem?_eq_getElem hi]
  have hxi : xs[i] = (X : Int) := by rw [← eI_lt hi]; exact hX
  by_cases e : f = X
  · subst e
    rw [if_pos rfl]
    simp [hxi]
  · rw [if_neg e]
    have : ¬ (f : Int) = (X : Int) := by omega
    simp [hxi, this]
theorem tsL_end (es : List (Int × Int)) (xs : List Int) {i : Nat} (hi : xs.length ≤ i) : tsL es xs i = tkL es (freeB es xs) (nxF es xs) 0 := by
  refine bools_ext (by rw [tsL_len, tkL_len]) fun f hf => ?_
  rw [tsL_len] at hf
  rw [tsL_at hf, tkL_at hf, List.take_of_length_le hi]
  unfold freeB metC
  rw [decide_eq_true hf]
  simp

theorem cyU_lt {es : List (Int × Int)} {ok : Nat → Bool} {nx : Int → Nat → Nat} {k m : Nat} (hk : k < m) (h : leadC es ok nx k = true) : (cyU es ok nx k).length < (cyU es ok nx m).length := by
  have h2 : ∀ j, k + 1 + j ≤ m → (cyU es ok nx (k + 1)).length ≤ (cyU es ok nx (k + 1 + j)).length := by
    intro j
    induction j with
    | zero => intro _; exact Nat.le_refl _
    | succ j ih =>
      intro hj
      have h3 := ih (by omega)
      cases h4 : leadC es ok nx (k + 1 + j)
      · rw [show k + 1 + (j + 1) = k + 1 + j + 1 by omega, cyU_no h4]; exact h3
      · rw [show k + 1 + (j + 1) = k + 1 + j + 1 by omega, cyU_yes h4, List.length_append]; omega
  have h5 := h2 (m - (k + 1)) (by omega)
  rw [show k + 1 + (m - (k + 1)) = m by omega, cyU_yes h, List.length_append] at h5
  simp at h5
  omega
theorem len_of_map {xs : List CyX} {ys : List (List Int)} (h : xs.map (fun x => x.2.2) = ys) : xs.length = ys.length := by rw [← h, List.length_map]

set_option maxRecDepth 100000 in
set_option maxHeartbeats 16000000 in
theorem cycles_moves (d n0 Ab Bg Bl N b off n c m f0 : Nat) (ps : Option Addr) (es : List (Int × Int)) (xs : List Int) (w0 : World) (hn0 : n0 ≤ w0.heap.size) (hA : w0.heap.size ≤ Ab) (hBg : Bg < w0.heap.size) (hBl : Bl < w0.heap.size)
    (hn : es.length = n) (hb : b < n0) (hr : ReadsE w0 b off es) (g : IsG N es) (hx : xs.length = m) (hm9 : m ≤ 1048576) (hrx : SeesI w0 ps xs) (hmt : isMatP N es xs)
    (hG1 : w0.cell? ⟨Bg, 0, none⟩ = some (.int .i64 N)) (hG2 : w0.cell? ⟨Bg, 1, none⟩ = some (.slice (some ⟨b, off, none⟩) n c)) (hL1 : w0.cell? ⟨Bl, 0, none⟩ = some (.slice ps m f0)) :
    SeqMoves Fence.wide (d + 1) Try.prog 149 #[.pointer (some ⟨Bg, 0, none⟩), .pointer (some ⟨Bl, 0, none⟩)] encC Ab (XC n Ab) (Kept (fun i => i < n0 ∨ i = Bg ∨ i = Ab)) (Kept (fun i => i ≠ Ab))
      (fun ys => ys.map (fun x => x.2.2) = cyU es (freeB es xs) (nxF es xs) n) (fun pre => ∃ k, k ≤ n ∧ pre.map (fun x => x.2.2) = cyU es (freeB es xs) (nxF es xs) k) (cyU es (freeB es xs) (nxF es xs) n).length w0 := by
  intro l J Jx W hW hB hJ hJx hY h0
  subst hW
  have hn30 : n ≤ 30 := by have := isG_len g; omega
  have T := hid (twoF g hmt)
  have HMt := hid hmt
  obtain ⟨ok, hok⟩ : ∃ ok, ok = freeB es xs := ⟨_, rfl⟩
  obtain ⟨nx, hnx⟩ : ∃ nx, nx = nxF es xs := ⟨_, rfl⟩
  have hts : ∀ i, xs.length ≤ i → tsL es xs i = tkL es (freeB es xs) (nxF es xs) 0 := fun i hi => tsL_end es xs hi
  rw [← hok, ← hnx] at T hY hts ⊢
  have HTs := hid hts
  have Hn := hid hn
  have Hr := hid (hr.on hB)
  have Hx := hid hx
  have Hrx := hid (hrx.on hB)
  have HJ := hid hJ
  have HJx := hid hJx
  have HY := hid (show ∀ pre x W1, J pre W1 → XC n W.heap.size x W1 → pre.length < (cyU es ok nx n).length → YieldAt Fence.wide d Try.prog l (encC x) W1 fun e W' => (e = .returned (.bool true) ∧ J (pre ++ [x]) W' ∧ Kept (fun i => i < n0 ∨ i = Bg ∨ i = W.heap.size) W1 W') ∨ (e = .returned (.bool false) ∧ Jx (pre ++ [x]) W') from hY)
  have g1 := (hB.cell (p := ⟨Bg, 0, none⟩) hBg).trans hG1
  have g2 := (hB.cell (p := ⟨Bg, 1, none⟩) hBg).trans hG2
  have l1 := (hB.cell (p := ⟨Bl, 0, none⟩) hBl).trans hL1
  have HG1 := hid g1
  have HG2 := hid g2
  have hsz := hB.size
  have hBgW : Bg < W.heap.size := by omega
  have hBlW : Bl < W.heap.size := by omega
  have hbW : b < W.heap.size := by omega
  obtain ⟨i0, hi, hz0, hz1, hz2⟩ := info_parts infoBz
  have hmk0 : ∀ w', (Instr.makeSlice 106 (.int .i64 n) (.int .i64 n)).run Try.prog w' = .ok (.slice (some ⟨w'.heap.size, 0, none⟩) n n) (w'.alloc (.cells (madeCells (Value.bool false).cells (n * 1)) 4)) := fun w' => by
    have h := run_makeSlice (P := Try.prog) w' 106 4 i0 (.bool false) Try.underlying106 hi hz0 .i64 .i64 n n (by omega) (Int.le_refl _) (by rw [hz1]; omega) (by rw [hz2]; omega) (by omega)
    rw [hz1] at h
    simpa using h
  obtain ⟨ZC, hZC⟩ : ∃ ZC, ZC = madeCells (Value.bool false).cells (n * 1) := ⟨_, rfl⟩
  have HZ := hid (show OwnB (W.alloc (.cells ZC 4)) W.heap.size n (List.replicate n false) by rw [hZC]; exact own_falses W _ n rfl hn30)
  have hmk : ∀ w', (Instr.makeSlice 106 (.int .i64 n) (.int .i64 n)).run Try.prog w' = .ok (.slice (some ⟨w'.heap.size, 0, none⟩) n n) (w'.alloc (.cells ZC 4)) := by rw [hZC]; exact hmk0
  clear hn hr hx hrx hmt hok hnx hts hJ hJx hY hG1 hG2 hL1 hi hmk0 hZC
  refine callsIn_of_wp Try.func149 rfl trivial ?_ rfl
  simp only [Try.ntmps149, List.size_toArray, List.length_cons, List.length_nil, Nat.reduceAdd, Nat.reduceSub, Array.replicate_succ, Array.replicate_zero, List.push_toArray, List.append_toArray, List.nil_append, List.cons_append]
  gi_wp2
  gi_loopw [14] (fun i wr => ∃ i' : Nat, i' ≤ m ∧ i = .int .i64 i' ∧ Hid (OwnB wr W.heap.size n (tsL es xs i')) ∧ Hid (Below W.heap.size W wr)) (fun i _ => m - (intOf i).toNat)
  case atStart => exact ⟨0, Nat.zero_le _, rfl, hid (by rw [tsL_zero, Hn.out]; exact HZ.out), hid (on_alloc _ _)⟩
  case round =>
    obtain ⟨i, hi, rfl, hC, hBi⟩ := hrel
    by_cases hlt : i < m
    · obtain ⟨sb, so, rfl, hrd⟩ : ∃ sb so, ps = some ⟨sb, so, none⟩ ∧ ReadsI W sb so xs := by
        rcases Hrx.out with h | h
        · have := Hx.out; rw [h] at this; simp at this; omega
        · exact h
      have hix : i < xs.length := by have := Hx.out; omega
      have hc1 := (hrd.on hBi.out) i hix
      have hsb := (hrd.on hBi.out).lt (show 0 < xs.length by omega)
      obtain ⟨X, hX, hXl⟩ := mat_at HMt.out hix
      rw [hX] at hc1
      have hXn : X < n := by have := Hn.out; omega
      have hXn' : (X : Int) < (n : Int) := by omega
      have hcX := hC.out.cell (i := X) (by rw [tsL_len]; exact hXl)
      have hfX := hC.out.free X
      have hgz := hC.out.lt
      have HX := hid (And.intro hX hXl)
      clear hrd hX hXl
      gi_wp2
      go_roundw
      case rel => exact ⟨i + 1, by omega, by go_num, hid (by rw [← tsL_step hix HX.out.1 HX.out.2]; exact OwnB.set hC.out (by rw [tsL_len]; exact HX.out.2) true), hid (hBi.out.setCell (p := ⟨W.heap.size, X, none⟩) (Nat.le_refl _) _)⟩
      case measure => simp [intOf]; omega
    · have him := hid (show xs.length ≤ i by have := Hx.out; omega)
      have HC := hid (show OwnB wr W.heap.size n (tkL es ok nx 0) by rw [← HTs.out i him.out]; exact hC.out)
      have HJ0 := hid (HJ.out [] W wr h0 ((Kept.refl _ W).call hBi.out))
      have HK0 := hid (show Kept (fun i => i < n0 ∨ i = Bg) W wr from (Kept.refl _ W).call hBi.out)
      have hgz0 := HC.out.lt
      clear hC hBi
      obtain ⟨w4, rfl⟩ : ∃ w4 : World, w4 = wr := ⟨_, rfl⟩
      gi_wp2
      gi_loopw [24] (fun i wr => ∃ (k : Nat) (pre : List CyX), k ≤ n ∧ i = .int .i64 k ∧ Hid (J pre wr ∧ pre.map (fun x => x.2.2) = cyU es ok nx k) ∧ Hid (OwnB wr W.heap.size n (tkL es ok nx k)) ∧ Hid (Kept (fun i => i < n0 ∨ i = Bg) W wr)) (fun i _ => n - (intOf i).toNat)
      case atStart => exact ⟨0, [], Nat.zero_le _, rfl, hid ⟨HJ0.out, rfl⟩, HC, HK0⟩
      case round =>
        obtain ⟨k, pre, hk, rfl, hP, hC, hKp⟩ := hrel
        clear HJ0 HC HK0
        have hszr := hKp.out.size
        by_cases hltk : k < n
        · have hkl : k < es.length := by have := Hn.out; omega
          have hkn' : (k : Int) < (n : Int) := by omega
          have hcT := hC.out.cell (i := k) (by rw [tkL_len]; exact hkl)
          have hgT := hC.out.lt
          have hld := tkL_lead (ok := ok) (nx := nx) hkl
          obtain ⟨a, ha⟩ : ∃ a, eL (tkL es ok nx k) k = a := ⟨_, rfl⟩
          rw [ha] at hcT hld
          have hgr1 := (World.cell?_of_block (w := W) (a := ⟨Bg, 0, none⟩) (hKp.out.same Bg (.inr rfl) hBgW)).trans HG1.out
          have hgr2 := (World.cell?_of_block (w := W) (a := ⟨Bg, 1, none⟩) (hKp.out.same Bg (.inr rfl) hBgW)).trans HG2.out
          have HRr := hid (Hr.out.keep (hKp.out.same b (.inl hb) hbW))
          have hc1 := (HRr.out k hkl).1
          have hBgr : Bg < wr.heap.size := by omega
          have hbr : b < wr.heap.size := by omega
          clear ha
          cases a
          · have HLd := hid (show leadC es ok nx k = true from hld.symm)
            clear hld
            obtain ⟨wo, rfl⟩ : ∃ wo : World, wo = wr := ⟨_, rfl⟩
            have hbT : b ≠ W.heap.size := by omega
            gi_wp2
            gi_region_with (first
              | (refine hR'.out.mono ?_
                 intro e W3 h3
                 obtain ⟨go, rfl, h3⟩ : ∃ go, e = .returned (.bool go) ∧ ((go = true ∧ J (pre ++ [(q, cap, cyL es nx k)]) W3 ∧ Kept (fun i => i < n0 ∨ i = Bg ∨ i = W.heap.size) w2 W3) ∨ (go = false ∧ Jx (pre ++ [(q, cap, cyL es nx k)]) W3)) := by
                   rcases h3 with ⟨rfl, h⟩ | ⟨rfl, h⟩
                   · exact ⟨true, rfl, .inl ⟨rfl, h⟩⟩
                   · exact ⟨false, rfl, .inr ⟨rfl, h⟩⟩
                 have H3 := hid h3
                 clear h3
                 dsimp only
                 gi_wp2)
              | (refine ⟨trivial, ?_⟩
                 gi_at_call 150
                 refine (callsIn_wide.2 (iTake_any N b off n c W.heap.size k es ok nx wo.drew Hn.out hbr hbT (HRr.out.on (Below.refl _ _).drew) T.out HLd.out (hC.out.on (Below.refl _ _).drew))).mono ?_
                 rintro e w2 ⟨q, cap, rfl, hF, hO2, hK2⟩
                 have hJ2 := HJ.out pre wo w2 hP.out.1 ⟨hK2.os, hK2.tape, hK2.output, hK2.size, fun i hi hl => hK2.same i ⟨hl, hi⟩ hl⟩
                 have HK2 := hid (show Kept (fun i => i < n0 ∨ i = Bg) W w2 from hKp.out.trans ⟨hK2.os, hK2.tape, hK2.output, hK2.size, fun i hi hl => hK2.same i ⟨hl, by omega⟩ hl⟩)
                 have HO2 := hid hO2
                 obtain ⟨fn, tmps, assign, body, hy, hR⟩ := HY.out pre (q, cap, cyL es nx k) w2 hJ2 ⟨hF.sees, fresh_from hF (by have h8 := hKp.out.size; have h9 : wo.drew.heap.size = wo.heap.size := rfl; omega), cyL_lenI T.out HLd.out Hn.out, fun i hi => by have h := cyL_edgesI T.out HLd.out hi; rwa [Hn.out] at h⟩ (by rw [len_of_map hP.out.2]; exact cyU_lt hltk HLd.out)
                 dsimp only [encC] at hy
                 have hR' := hid hR
                 clear hR hJ2 hF hO2 hK2
                 dsimp only
                 gi_wp2))
            all_goals
              cases go
              · have hJx3 : Jx (pre ++ [(q, cap, cyL es nx k)]) W3 := by
                  rcases H3.out with ⟨h, _⟩ | ⟨_, h⟩
                  · cases h
                  · exact h
                have HJx3 := hid hJx3
                clear hJx3 H3
                gi_wp2
                refine bodyPost_ret (results_none rfl _ _ _) rfl ?_
                exact ⟨⟨_, rfl⟩, .inr ⟨_, ⟨k + 1, by omega, (by rw [List.map_append, hP.out.2, cyU_yes HLd.out]; rfl)⟩, HJx3.out⟩⟩
              · have h3 : J (pre ++ [(q, cap, cyL es nx k)]) W3 ∧ Kept (fun i => i < n0 ∨ i = Bg ∨ i = W.heap.size) w2 W3 := by
                  rcases H3.out with ⟨_, h⟩ | ⟨h, _⟩
                  · exact h
                  · cases h
                have HJ3 := hid h3.1
                have HK3 := hid h3.2
                clear h3 H3
                gi_wp2
                go_roundw
                case rel => exact ⟨k + 1, _, by omega, by go_num, hid ⟨HJ3.out, by rw [List.map_append, hP.out.2, cyU_yes HLd.out]; rfl⟩, hid (HO2.out.keep (HK3.out.same W.heap.size (.inr (.inr rfl)) HO2.out.lt)), hid (HK2.out.trans (HK3.out.mono fun i h => by rcases h with h | h; exact .inl h; exact .inr (.inl h)))⟩
                case measure => simp [intOf]; omega
          · have HLd := hid (show leadC es ok nx k = false from hld.symm)
            clear hld
            obtain ⟨wo, rfl⟩ : ∃ wo : World, wo = wr := ⟨_, rfl⟩
            gi_wp2
            refine region_tail_wide 18 (by kernel_rfl) (by kernel_rfl) ?_
            simp only [List.take_succ_cons, List.take_zero, List.drop_succ_cons, List.drop_zero]
            still_step
            still_step
            still_step
            still_step
            still_step
            still_step
            still_step
            still_step
            still_step
            still_step
            still_step
            still_step
            still_step
            still_step
            still_step
            still_step
            still_step
            still_step
            refine wpStill_nil ?_
            gi_wp2
            go_roundw
            case rel => exact ⟨k + 1, pre, by omega, by go_num, hid ⟨HJ.out pre wo wo.drew hP.out.1 ((Kept.refl _ _).call (Below.refl _ _).drew), by rw [cyU_no HLd.out]; exact hP.out.2⟩, hid (by rw [tkL_old T.out HLd.out]; exact hC.out.on (Below.refl _ _).drew), hid (hKp.out.call (Below.refl _ _).drew)⟩
            case measure => simp [intOf]; omega
        · obtain rfl : k = n := by omega
          gi_wp2
          go_end0
          exact ⟨⟨_, rfl⟩, .inl ⟨pre, hP.out.2, hP.out.1⟩⟩

end Go.Proofs.Ythacpadadccioaa
