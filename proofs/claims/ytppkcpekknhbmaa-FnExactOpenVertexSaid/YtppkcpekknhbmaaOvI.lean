/- OpenVertex in the program. -/
import Derived.Test.YtppkcpekknhbmaaOvA
import Derived.Test.YtppkcpekknhbmaaIterB
import Derived.Test.YtppkcpekknhbmaaTailIn
import Derived.Test.YtppkcpekknhbmaaRounds
import Derived.Test.YtppkcpekknhbmaaClone
import Derived.Test.YtppkcpekknhbmaaLeft
import Derived.BigQuiet
namespace Go.Proofs.Ytppkcpekknhbmaa
open Go.RowKit Go.Shelf

attribute [local go_sem] Oper.semAt_some

theorem boxedO_at (w : World) (g : Nat) (t : TypeId) (v : Value) (hg : g = w.heap.size) : Boxed (w.alloc (.cells #[v] t)) g t v := by subst hg; exact Boxed.new w t v
/-- The law of a region that first only reads, inside a round. -/
theorem region_tail_round {n lp : Nat} {P : Program} {Q : Exit → Act → World → Prop} {w : World} {id : Nat} {a : Act} {l : List Oper} (m : Nat) (hm : P.follows .mixedOrders = true) (hnd : l.toArray.toList.all plainB = true) (hB : Region.lexTailB .any l.toArray m = true)
    (h : wpStill P l.toArray w.drew (fun a' => wpListIn Fence.wide n P l.toArray Q (l.drop m) a' w.drew) (l.take m) a) : (Code.region id l.toArray true).wpIn (Fence.wide.inRound lp) n P Q a w := by
  simp only [Region.lexTailB, Bool.and_eq_true, decide_eq_true_eq] at hB
  obtain ⟨⟨⟨⟨hsel, hn⟩, hs⟩, hc⟩, hlex⟩ := hB
  have hn' : m < l.length := by simpa using hn
  have htl : (l.take m).length = m := by simp; omega
  have hdl : (l.drop m).length = l.toArray.size - m := by simp
  have inv0 : HeadInv .any l.toArray m (Array.replicate l.toArray.size false) :=
    ⟨by simp, fun j oj _ hl => (by rw [getD_replicate_false] at hl; cases hl), fun t _ ht => getD_in (by simpa using ht) (getD_replicate_false _ _)⟩
  have H := wpAnyL_lex (md := .any) (g := l.toArray.size - m) hsel hs hc hn (l.take m) 0 _ a (fun j hj => by
    have hj' : j < m := by rw [htl] at hj; exact hj
    simp [hj']) (by simpa using htl) inv0 (by rw [htl]; exact hlex) h
  refine region_round rfl hm hnd ?_
  have := head_wide (n := n) (Q := Q) (g := l.toArray.size - m) (fun listed a' hL => by
    have := seq_wide (n := n) (md := .any) (Q := Q) (l.drop m) m listed a' w.drew (fun j => by simp [List.getElem?_drop]) (by rw [hdl]; exact hL.1) hL.2
    rwa [hdl] at this) _ _ _ H
  rw [htl, show m + (l.toArray.size - m) = l.toArray.size by omega] at this
  exact this

theorem newSome {w : World} {base n : Nat} {e : TypeId} {size : Nat} {v : Value} {xs : List Value} (h : w.ownsRow base e size v n xs) (hn : 0 < n) : ∃ g cap, v = .slice (some ⟨g, 0, none⟩) n cap := by
  rcases h.2 with ⟨_, h⟩ | ⟨g, cap, _, h, _⟩
  · omega
  · exact ⟨g, cap, h⟩
/-- The edges and the corners while the range goes on. -/
def OvAt (s v : Int) (es : List (Int × Int)) (M B7 GC B8 g5 cap5 : Nat) (pre : List (ArS es v)) (W : World) : Prop :=
  OwnE W g5 cap5 (ovP s v (es ++ newT s v) (pre.map Subtype.val)) ∧ Boxed W B7 28 (.slice (some ⟨g5, 0, none⟩) M cap5) ∧
  W.heap[GC]? = some (.cells #[.int .i64 v, .int .i64 s, .int .i64 (s + 1)] 2 (0, 0)) ∧ ∃ u, Boxed W B8 34 u ∧ (pre.length < 3 → u = .slice (some ⟨GC, pre.length, none⟩) (3 - pre.length) (3 - pre.length))
theorem ovAt_own (s v : Int) (es : List (Int × Int)) (M B7 GC B8 g5 cap5 : Nat) : Own (OvAt s v es M B7 GC B8 g5 cap5) := fun pre W W' row h hg hr => by
  obtain ⟨h1, h2, h3, u, h4, h5⟩ := h
  have key : ∀ (g : Nat) (cs : Array Value) (t : TypeId) (fr : Nat × Nat), W.heap[g]? = some (Obj.cells cs t fr) → W'.heap[g]? = W.heap[g]? := fun g cs t fr hc => hg.block g (Array.getElem?_eq_some_iff.1 hc).1 (fun e => by
    obtain ⟨o, ho, hcl⟩ := hr g e.symm
    rw [hc] at ho
    cases ho
    cases hcl)
  refine ⟨?_, (key _ _ _ _ h2).trans h2, (key _ _ _ _ h3).trans h3, u, (key _ _ _ _ h4).trans h4, h5⟩
  obtain ⟨cur, hc, r⟩ := h1
  exact ⟨cur, (key _ _ _ _ hc).trans hc, r⟩

theorem ovAt_next {s v : Int} {es : List (Int × Int)} {M B7 GC B8 g5 cap5 j : Nat} {pre : List (ArS es v)} {W W' : World} {cj : Int} {v8 : Value} (x : ArS es v) (h : OvAt s v es M B7 GC B8 g5 cap5 pre W) (hj : pre.length = j) (hcj : cornF s v j = cj)
    (hc : ∀ b, b ≠ g5 → b ≠ B8 → W'.heap[b]? = W.heap[b]?) (hO : OwnE W' g5 cap5 ((ovP s v (es ++ newT s v) (pre.map Subtype.val)).set x.1.1 (cj, x.1.2))) (hB8 : Boxed W' B8 34 v8)
    (n7 : g5 ≠ B7) (nC : g5 ≠ GC) (n78 : B7 ≠ B8) (nC8 : GC ≠ B8) (h8 : j + 1 < 3 → v8 = .slice (some ⟨GC, j + 1, none⟩) (3 - (j + 1)) (3 - (j + 1))) :
    OvAt s v es M B7 GC B8 g5 cap5 (pre ++ [x]) W' := by
  obtain ⟨h1, h2, h3, u, h4, _⟩ := h
  refine ⟨?_, (hc B7 (Ne.symm n7) n78).trans h2, (hc GC (Ne.symm nC) nC8).trans h3, v8, hB8, fun hl => ?_⟩
  · rw [List.map_append, List.map_singleton, ovP_snoc, List.length_map, hj, hcj]
    exact hO
  · rw [List.length_append, List.length_singleton, hj] at hl ⊢
    exact h8 hl

set_option maxRecDepth 100000 in
set_option maxHeartbeats 8000000 in
theorem iOv_yes (N b off n c : Nat) (v : Int) (es : List (Int × Int)) (w : World) (hn : es.length = n) (hr : ReadsE w b off es) (g : IsG N es) (hv : 0 ≤ v ∧ v < (N : Int)) (h18 : N ≤ 18) :
    Calls Try.prog 34 #[.agg #[.int .i64 N, .slice (some ⟨b, off, none⟩) n c], .int .i64 v] w fun e' w' => ∃ q cap, e' = .returned (.tuple #[.agg #[.int .i64 (N + 2), .slice q (n + 3) cap], .int .i64 0]) ∧ FreshE w.heap.size w' q (n + 3) cap (sortE (ovM N v es)) ∧ Below w.heap.size w w' := by
  have hm30 : n ≤ 30 := by have := isG_len g; omega
  have hbb : b < w.heap.size := reads_lt hr (by have := g.1.1.1; have := g.1.1.2.2.2; omega)
  have hn1 : 1 ≤ n := by have := g.1.1.1; have := g.1.1.2.2.2; omega
  have Hn := hid hn
  have Hr := hid hr
  have G := hid g
  have Hv := hid hv
  have e1 : IntKind.i64.wrap ((N : Int) + 2) = N + 2 := IntWalk.i64_in _ (by omega)
  have e2 : IntKind.i64.wrap ((N : Int) + 1) = N + 1 := IntWalk.i64_in _ (by omega)
  have t2 : decide (20 < (N : Int) + 2) = false := by simp; omega
  obtain ⟨i0, hi, hz0, hz1, hz2⟩ := info_parts infoEdge
  have Hi := hid hi
  have HB0 := hid (bfrom (on_alloc w (.cells #[.int .i64 N, .slice (some ⟨b, off, none⟩) n c] 30)) (on_alloc _ (.cells #[.int .i64 0, .slice none 0 0] 30)))
  have HX0 := hid ((Box.new w N (some ⟨b, off, none⟩) n c 30).on (on_alloc _ (.cells #[.int .i64 0, .slice none 0 0] 30)))
  have HK0 : Hid (GBox ((w.alloc (.cells #[.int .i64 N, .slice (some ⟨b, off, none⟩) n c] 30)).alloc (.cells #[.int .i64 0, .slice none 0 0] 30)) (w.heap.size + 1) 0 none 0 0) := hid (GBox.new _ _ (by simp))
  clear hn hr g hv hi
  refine (callsIn_wide (n := 6)).1 ?_
  refine callsIn_of_wp_marks Try.func34 rfl trivial ?_ rfl
  simp only [Try.ntmps34, List.size_toArray, List.length_cons, List.length_nil, Nat.reduceAdd, Nat.reduceSub, Array.replicate_succ, Array.replicate_zero, List.push_toArray, List.append_toArray, List.nil_append, List.cons_append]
  gi_wp2
  refine ⟨trivial, ?_⟩
  refine (callsIn_wide.2 (iIsGraph_any _ _ _ _ es _ (by omega) Hn.out (SeesE.on (.inr ⟨b, off, rfl, Hr.out⟩) HB0.out))).mono ?_
  rw [decide_eq_true G.out]
  rintro e w2 ⟨rfl, hb2⟩
  have HX2 := hid (HX0.out.on hb2)
  have HK2 := hid (HK0.out.on hb2)
  have HB2 := hid (bfrom HB0.out hb2)
  have hx2 := HX2.out.1
  have hy2 := HX2.out.2
  have hz2' := HX2.out.lt
  have hzk2 := HK2.out.lt
  clear hb2 HX0 HK0
  gi_wp2_with (refine ⟨trivial, ?_⟩; gi_at_call 63; refine (callsIn_wide.2 (iBelow_yes _ _ _ Hv.out)).mono ?_; rintro e w' ⟨rfl, rfl⟩)
  refine ⟨trivial, ?_⟩
  refine (callsIn_wide.2 (cloneE_row b off n c es w2 Hn.out (by omega) (Hr.out.on HB2.out))).mono ?_
  rintro e w3 ⟨v3, rfl, ho3, hne3, hb3⟩
  obtain ⟨g3, cap3, rfl⟩ : ∃ g cap, v3 = .slice (some ⟨g, 0, none⟩) n cap := by
    rcases ho3.2 with ⟨h, _⟩ | ⟨g, cap, _, h, _⟩
    · exact absurd h hne3
    · exact ⟨g, cap, h⟩
  have HO3 := hid ho3
  have HB3 := hid hb3
  have hw23 := hb3.size
  have hx3 := ((bcells hb3).1 _ _ hz2').trans hx2
  have hy3 := ((bcells hb3).1 _ _ hz2').trans hy2
  have hz3' : w.heap.size < w3.heap.size := by omega
  have hrow3 : ∀ j, (Value.slice (some ⟨g3, 0, none⟩) n cap3).ownBlock = some j → w2.heap.size ≤ j ∧ j < w3.heap.size := HO3.out.lt
  have HX3 := hid (HX2.out.on HB3.out)
  clear ho3 hne3 hb3 hx2 hy2 hx3 hy3
  gi_wp2_with (first
    | (gi_at_builtin; refine wpListIn_append_own _ rfl _ _ 28 rfl w2.heap.size 73 i0 (.agg #[.int .i64 0, .int .i64 0]) 2 16 Try.underlying28 Hi.out hz0 hz1 hz2 rfl (by decide) _ _ _ rfl (HO3.out.alloc _) ⟨w3.heap.size, 0, none⟩ 3 3 [.int .i64 v, .int .i64 N, .int .i64 v, .int .i64 ((N : Int) + 1), .int .i64 N, .int .i64 ((N : Int) + 1)] rfl rfl (World.news_of_block (cs := #[.int .i64 v, .int .i64 N, .int .i64 v, .int .i64 ((N : Int) + 1), .int .i64 N, .int .i64 ((N : Int) + 1)]) (t := 73) (fr := (0, 0)) (heap_alloc_new _ _)) (by simp [Value.oneCell']) (by unfold maxLen; omega) (by omega) (by simp; omega) ?_; intro v5 w5 hown5 hgrow5 hnil5; obtain ⟨g5, cap5, rfl⟩ : ∃ g cap, v5 = .slice (some ⟨g, 0, none⟩) (n + 3) cap := newSome hown5 (by omega); have HB5 := hid ((((Below.refl w2.heap.size w2).trans HB3.out).alloc hw23 (.cells #[.int .i64 v, .int .i64 N, .int .i64 v, .int .i64 ((N : Int) + 1), .int .i64 N, .int .i64 ((N : Int) + 1)] 73)).grown hgrow5 (by simp; omega) (fun j hj => (hrow3 j hj).1)); have HX5 := hid (HX2.out.on HB5.out); have hx5 := HX5.out.1; have hy5 := HX5.out.2; have hz5' := HX5.out.lt; have hz5a : w.heap.size ≤ w5.heap.size := (by omega); have hz5b : w.heap.size ≤ w5.heap.size + 1 := (by omega); have hz5c : w.heap.size ≤ w5.heap.size + 1 + 1 := (by omega); have hz5d : w.heap.size < w5.heap.size + 1 := (by omega); have hz5e : w.heap.size < w5.heap.size + 1 + 1 := (by omega); have hz5f : w.heap.size < w5.heap.size + 1 + 1 + 1 := (by omega); have Hown5 := hid hown5; clear hown5 hgrow5 hnil5)
    | (refine ⟨trivial, ?_⟩; gi_at_call 73; refine (callsIn_wide.2 (iAround_any _ _ _ _ _ _)).mono ?_; rintro e w' ⟨rfl, rfl⟩))
  obtain ⟨M, hM⟩ : ∃ M, n + 3 = M := ⟨_, rfl⟩
  rw [hM]
  have HM := hid hM
  obtain ⟨W0, hW0⟩ : ∃ W0 : World, W0 = (((((w5.alloc (.cells #[.slice (some ⟨g5, 0, none⟩) M cap5] 28)).alloc (.cells #[.int .i64 v, .int .i64 N, .int .i64 ((N : Int) + 1)] 2)).alloc (.cells #[.slice (some ⟨w5.heap.size + 1, 0, none⟩) 3 3] 34)).alloc (.cells #[.int .i64 N, .slice (some ⟨b, off, none⟩) n c] 30)).alloc (.cells #[.int .i64 v] 2)) := ⟨_, rfl⟩
  rw [← hW0]
  have hsz : W0.heap.size = w5.heap.size + 5 := by rw [hW0]; simp
  have hB0 : Below w5.heap.size w5 W0 := by rw [hW0]; exact bfrom (bfrom (bfrom (bfrom (on_alloc _ _) (on_alloc _ _)) (on_alloc _ _)) (on_alloc _ _)) (on_alloc _ _)
  have b7 : Boxed W0 w5.heap.size 28 (.slice (some ⟨g5, 0, none⟩) M cap5) := by rw [hW0]; exact ((((Boxed.new w5 _ _).alloc _).alloc _).alloc _).alloc _
  have hGC : W0.heap[w5.heap.size + 1]? = some (.cells #[.int .i64 v, .int .i64 N, .int .i64 ((N : Int) + 1)] 2 (0, 0)) := by
    rw [hW0]
    have h1 := World.alloc_heap_new (w5.alloc (.cells #[.slice (some ⟨g5, 0, none⟩) M cap5] 28)) (.cells #[.int .i64 v, .int .i64 N, .int .i64 ((N : Int) + 1)] 2)
    rw [World.size_alloc] at h1
    exact (Below.heap_alloc _ _ _ (by simp)).trans ((Below.heap_alloc _ _ _ (by simp)).trans ((Below.heap_alloc _ _ _ (by simp)).trans h1))
  have b8 : Boxed W0 (w5.heap.size + 1 + 1) 34 (.slice (some ⟨w5.heap.size + 1, 0, none⟩) 3 3) := by rw [hW0]; exact ((boxedO_at _ _ _ _ (by simp)).alloc _).alloc _
  have hbG : W0.cell? ⟨w5.heap.size + 1 + 1 + 1, 1, none⟩ = some (.slice (some ⟨b, off, none⟩) n c) := by
    rw [hW0]
    have h := ((Box.new (((w5.alloc (.cells #[.slice (some ⟨g5, 0, none⟩) M cap5] 28)).alloc (.cells #[.int .i64 v, .int .i64 N, .int .i64 ((N : Int) + 1)] 2)).alloc (.cells #[.slice (some ⟨w5.heap.size + 1, 0, none⟩) 3 3] 34)) N (some ⟨b, off, none⟩) n c 30).on (on_alloc _ (.cells #[.int .i64 v] 2))).2
    simpa only [World.size_alloc] using h
  have hbV : W0.cell? ⟨w5.heap.size + 1 + 1 + 1 + 1, 0, none⟩ = some (.int .i64 v) := by
    rw [hW0]
    exact (boxedO_at _ _ _ _ (by simp)).cell
  have HW0 := hid (show Below w2.heap.size w2 W0 from HB5.out.trans (hB0.mono HB5.out.size))
  have hw25 := HB5.out.size
  have ho5 : OwnE w5 g5 cap5 (es ++ newT N v) ∧ w2.heap.size ≤ g5 := OwnE.of_row (n := n + 3) (by rw [edgeVals_append]; exact Hown5.out) (by rw [List.length_append, Hn.out]; rfl)
  have hO0 := ho5.1.on hB0
  have hg5 := ho5.2
  have hg5z := ho5.1.lt
  have h3L : (onL es v).length = 3 := by
    obtain ⟨x, y, z, h, _⟩ := onL_three G.out Hv.out
    rw [h]; rfl
  have hA3 : (arF es v).length = 3 := by rw [← h3L, ← arF_onL, List.length_map]
  clear hW0
  refine wpIn_rangeFunc_ownG (n := 6) rfl (by omega) (gf := 93) (lb := #[.pointer (some ⟨w5.heap.size + 1 + 1 + 1, 0, none⟩), .pointer (some ⟨w5.heap.size + 1 + 1 + 1 + 1, 0, none⟩)]) rfl trivial (enters_of Try.func93 (by kernel_rfl) rfl)
    (aroundS_stops 5 (by omega) (w5.heap.size + 1 + 1 + 1) (w5.heap.size + 1 + 1 + 1 + 1) w2.heap.size b off n c v es Hn.out hm30 (by have := HB2.out.size; omega) W0 (by omega) hbG hbV (by omega) (by omega) ((Hr.out.on HB2.out).on HW0.out)) kpB_t (kpB_b (by omega) (by omega)) (Below.refl _ _) (fun _ => rfl)
    (fun (pre : List (ArS es v)) W => OvAt N v es M w5.heap.size (w5.heap.size + 1) (w5.heap.size + 1 + 1) g5 cap5 pre W ∧ Below w2.heap.size w2 W)
    (fun _ _ _ => False)
    (OwnFrom.and (Own.from (ovAt_own _ _ _ _ _ _ _ _ _) _) (ownFrom_below (Nat.le_refl _) (by omega)))
    (fun _ _ _ _ _ hs _ _ => hs)
    ⟨⟨hO0, b7, hGC, _, b8, fun _ => rfl⟩, HW0.out⟩
    ?a1 ?assign ?body ?done ?stop
  case assign =>
    intro l x W K hK
    gi_wp2
    exact hK
  case body =>
    rintro l pre ⟨⟨f, u⟩, hfl, hfo, hfu⟩ W ⟨⟨h1, h2, h3, u8, h4, h5⟩, hB⟩ hlt
    rw [hA3] at hlt
    obtain rfl := h5 hlt
    have hfM : f < M := by rw [← HM.out]; have := Hn.out; omega
    have hfM' : (f : Int) < (M : Int) := by omega
    have hll : (ovP N v (es ++ newT N v) (pre.map Subtype.val)).length = M := by rw [ovP_len, List.length_append, Hn.out, ← HM.out]; rfl
    have hce := h1.reads f (by rw [hll]; exact hfM)
    rw [Nat.zero_add] at hce
    obtain ⟨hce1, hce2⟩ := hce
    have hfe1 := h1.free (f * 2)
    have hfe2 := h1.free (f * 2 + 1)
    have hc7 := h2.cell
    have hc8 := h4.cell
    have hf8 := h4.frozen
    have hgl := h1.lt
    have hl7 := h2.lt
    have hl8 := h4.lt
    have hlC : w5.heap.size + 1 < W.heap.size := (Array.getElem?_eq_some_iff.1 h3).1
    have HAll := hid (And.intro h1 (And.intro h2 (And.intro h3 h4)))
    have HBW := hid hB
    have HEnc := hid (And.intro hfo hfu)
    rcases (by omega : pre.length = 0 ∨ pre.length = 1 ∨ pre.length = 2) with hj | hj | hj
    · rw [hj] at hc8
      have hcc : W.cell? ⟨w5.heap.size + 1, 0, none⟩ = some (.int .i64 v) := (cell_of_row W (w5.heap.size + 1) 0 _ _ _ h3).trans rfl
      have HJ := hid hj
      clear h1 h2 h3 h4 h5 hB hlt hj hll
      gi_wp2
      apply cut_later
      · intro hX
        refine region_round rfl (by kernel_rfl) (by kernel_rfl) ?_
        refine wpAnyIn_take (i := 1) (v := .int .i64 (f : Int)) rfl rfl (by kernel_rfl) (by kernel_rfl) (by kernel_rfl) (fun _ _ _ h => h) ⟨Or.inl ⟨by rfl, by (intro w'; go_simp)⟩, fun _ => rfl⟩ ?_
        refine wpAnyIn_take (i := 5) (v := .int .i64 u) rfl rfl (by kernel_rfl) (by kernel_rfl) (by kernel_rfl) (fun _ _ _ h => h) ⟨Or.inl ⟨by rfl, by (intro w'; go_simp)⟩, fun _ => rfl⟩ ?_
        refine wpAnyIn_ready (rs := [0, 2, 7]) (by kernel_rfl) (by simp) ?_
        refine AllReadyIn.cons rfl (fun K hK => ?_) ?_
        · go_simp
          refine hK _ _ ?_
          clear hK K
          refine wpAnyIn_ready (rs := [2, 7]) (by kernel_rfl) (by simp) ?_
          refine AllReadyIn.cons rfl (fun K hK => ?_) ?_
          · go_simp
            refine hK _ _ ?_
            clear hK K
            refine wpAnyIn_take (i := 3) (v := .pointer (some ⟨w5.heap.size + 1, 0, none⟩)) rfl rfl (by kernel_rfl) (by kernel_rfl) (by kernel_rfl) (fun _ _ _ h => h) ⟨Or.inl ⟨by rfl, by (intro w'; go_simp)⟩, fun _ => rfl⟩ ?_
            refine wpAnyIn_ready (rs := [4, 7]) (by kernel_rfl) (by simp) ?_
            refine AllReadyIn.cons rfl (fun K hK => ?_) ?_
            · go_simp
              refine hK _ _ ?_
              clear hK K
              refine wpAnyIn_take (i := 6) (v := .agg #[.int .i64 v, .int .i64 u]) rfl rfl (by kernel_rfl) (by kernel_rfl) (by kernel_rfl) (fun _ _ _ h => h) ⟨Or.inl ⟨by rfl, by (intro w'; go_simp)⟩, fun _ => rfl⟩ ?_
              refine wpAnyIn_take (i := 9) (v := .pointer (some ⟨g5, f * 2, none⟩)) rfl rfl (by kernel_rfl) (by kernel_rfl) (by kernel_rfl) (fun _ _ _ h => h) ⟨Or.inl ⟨by rfl, by (intro w'; go_simp)⟩, fun _ => rfl⟩ ?_
              refine wpAnyIn_ready (rs := [7, 10]) (by kernel_rfl) (by simp) ?_
              refine AllReadyIn.cons rfl (fun K hK => ?_) ?_
              · go_simp
                refine hK _ _ ?_
                clear hK K
                refine wpAnyIn_take (i := 8) (v := .slice (some ⟨w5.heap.size + 1, 1, none⟩) 2 2) rfl rfl (by kernel_rfl) (by kernel_rfl) (by kernel_rfl) (fun _ _ _ h => h) ⟨Or.inl ⟨by rfl, by (intro w'; go_simp)⟩, fun _ => rfl⟩ ?_
                refine wpAnyIn_ready (rs := [10]) (by kernel_rfl) (by simp) ?_
                refine AllReadyIn.cons rfl (fun K hK => ?_) ?_
                · go_simp
                  refine hK _ _ ?_
                  clear hK K
                  refine wpAnyIn_ready (rs := [11]) (by kernel_rfl) (by simp) ?_
                  refine AllReadyIn.cons rfl (fun K hK => ?_) ?_
                  · go_simp
                    refine hK _ _ ?_
                    clear hK K
                    refine wpAnyIn_done (by kernel_rfl) ?_ _
                    exact hX
                  exact AllReadyIn.nil
                exact AllReadyIn.nil
              refine AllReadyIn.cons rfl (fun K hK => ?_) ?_
              · go_simp
                refine hK _ _ ?_
                clear hK K
                refine wpAnyIn_ready (rs := [7]) (by kernel_rfl) (by simp) ?_
                refine AllReadyIn.cons rfl (fun K hK => ?_) ?_
                · go_simp
                  refine hK _ _ ?_
                  clear hK K
                  refine wpAnyIn_take (i := 8) (v := .slice (some ⟨w5.heap.size + 1, 1, none⟩) 2 2) rfl rfl (by kernel_rfl) (by kernel_rfl) (by kernel_rfl) (fun _ _ _ h => h) ⟨Or.inl ⟨by rfl, by (intro w'; go_simp)⟩, fun _ => rfl⟩ ?_
                  refine wpAnyIn_ready (rs := [11]) (by kernel_rfl) (by simp) ?_
                  refine AllReadyIn.cons rfl (fun K hK => ?_) ?_
                  · go_simp
                    refine hK _ _ ?_
                    clear hK K
                    refine wpAnyIn_done (by kernel_rfl) ?_ _
                    exact hX
                  exact AllReadyIn.nil
                exact AllReadyIn.nil
              exact AllReadyIn.nil
            refine AllReadyIn.cons rfl (fun K hK => ?_) ?_
            · go_simp
              refine hK _ _ ?_
              clear hK K
              refine wpAnyIn_take (i := 8) (v := .slice (some ⟨w5.heap.size + 1, 1, none⟩) 2 2) rfl rfl (by kernel_rfl) (by kernel_rfl) (by kernel_rfl) (fun _ _ _ h => h) ⟨Or.inl ⟨by rfl, by (intro w'; go_simp)⟩, fun _ => rfl⟩ ?_
              refine wpAnyIn_ready (rs := [4]) (by kernel_rfl) (by simp) ?_
              refine AllReadyIn.cons rfl (fun K hK => ?_) ?_
              · go_simp
                refine hK _ _ ?_
                clear hK K
                refine wpAnyIn_take (i := 6) (v := .agg #[.int .i64 v, .int .i64 u]) rfl rfl (by kernel_rfl) (by kernel_rfl) (by kernel_rfl) (fun _ _ _ h => h) ⟨Or.inl ⟨by rfl, by (intro w'; go_simp)⟩, fun _ => rfl⟩ ?_
                refine wpAnyIn_take (i := 9) (v := .pointer (some ⟨g5, f * 2, none⟩)) rfl rfl (by kernel_rfl) (by kernel_rfl) (by kernel_rfl) (fun _ _ _ h => h) ⟨Or.inl ⟨by rfl, by (intro w'; go_simp)⟩, fun _ => rfl⟩ ?_
                refine wpAnyIn_ready (rs := [10]) (by kernel_rfl) (by simp) ?_
                refine AllReadyIn.cons rfl (fun K hK => ?_) ?_
                · go_simp
                  refine hK _ _ ?_
                  clear hK K
                  refine wpAnyIn_ready (rs := [11]) (by kernel_rfl) (by simp) ?_
                  refine AllReadyIn.cons rfl (fun K hK => ?_) ?_
                  · go_simp
                    refine hK _ _ ?_
                    clear hK K
                    refine wpAnyIn_done (by kernel_rfl) ?_ _
                    exact hX
                  exact AllReadyIn.nil
                exact AllReadyIn.nil
              exact AllReadyIn.nil
            exact AllReadyIn.nil
          refine AllReadyIn.cons rfl (fun K hK => ?_) ?_
          · go_simp
            refine hK _ _ ?_
            clear hK K
            refine wpAnyIn_take (i := 8) (v := .slice (some ⟨w5.heap.size + 1, 1, none⟩) 2 2) rfl rfl (by kernel_rfl) (by kernel_rfl) (by kernel_rfl) (fun _ _ _ h => h) ⟨Or.inl ⟨by rfl, by (intro w'; go_simp)⟩, fun _ => rfl⟩ ?_
            refine wpAnyIn_ready (rs := [2]) (by kernel_rfl) (by simp) ?_
            refine AllReadyIn.cons rfl (fun K hK => ?_) ?_
            · go_simp
              refine hK _ _ ?_
              clear hK K
              refine wpAnyIn_take (i := 3) (v := .pointer (some ⟨w5.heap.size + 1, 0, none⟩)) rfl rfl (by kernel_rfl) (by kernel_rfl) (by kernel_rfl) (fun _ _ _ h => h) ⟨Or.inl ⟨by rfl, by (intro w'; go_simp)⟩, fun _ => rfl⟩ ?_
              refine wpAnyIn_ready (rs := [4]) (by kernel_rfl) (by simp) ?_
              refine AllReadyIn.cons rfl (fun K hK => ?_) ?_
              · go_simp
                refine hK _ _ ?_
                clear hK K
                refine wpAnyIn_take (i := 6) (v := .agg #[.int .i64 v, .int .i64 u]) rfl rfl (by kernel_rfl) (by kernel_rfl) (by kernel_rfl) (fun _ _ _ h => h) ⟨Or.inl ⟨by rfl, by (intro w'; go_simp)⟩, fun _ => rfl⟩ ?_
                refine wpAnyIn_take (i := 9) (v := .pointer (some ⟨g5, f * 2, none⟩)) rfl rfl (by kernel_rfl) (by kernel_rfl) (by kernel_rfl) (fun _ _ _ h => h) ⟨Or.inl ⟨by rfl, by (intro w'; go_simp)⟩, fun _ => rfl⟩ ?_
                refine wpAnyIn_ready (rs := [10]) (by kernel_rfl) (by simp) ?_
                refine AllReadyIn.cons rfl (fun K hK => ?_) ?_
                · go_simp
                  refine hK _ _ ?_
                  clear hK K
                  refine wpAnyIn_ready (rs := [11]) (by kernel_rfl) (by simp) ?_
                  refine AllReadyIn.cons rfl (fun K hK => ?_) ?_
                  · go_simp
                    refine hK _ _ ?_
                    clear hK K
                    refine wpAnyIn_done (by kernel_rfl) ?_ _
                    exact hX
                  exact AllReadyIn.nil
                exact AllReadyIn.nil
              exact AllReadyIn.nil
            exact AllReadyIn.nil
          exact AllReadyIn.nil
        refine AllReadyIn.cons rfl (fun K hK => ?_) ?_
        · go_simp
          refine hK _ _ ?_
          clear hK K
          refine wpAnyIn_take (i := 3) (v := .pointer (some ⟨w5.heap.size + 1, 0, none⟩)) rfl rfl (by kernel_rfl) (by kernel_rfl) (by kernel_rfl) (fun _ _ _ h => h) ⟨Or.inl ⟨by rfl, by (intro w'; go_simp)⟩, fun _ => rfl⟩ ?_
          refine wpAnyIn_ready (rs := [0, 4, 7]) (by kernel_rfl) (by simp) ?_
          refine AllReadyIn.cons rfl (fun K hK => ?_) ?_
          · go_simp
            refine hK _ _ ?_
            clear hK K
            refine wpAnyIn_ready (rs := [4, 7]) (by kernel_rfl) (by simp) ?_
            refine AllReadyIn.cons rfl (fun K hK => ?_) ?_
            · go_simp
              refine hK _ _ ?_
              clear hK K
              refine wpAnyIn_take (i := 6) (v := .agg #[.int .i64 v, .int .i64 u]) rfl rfl (by kernel_rfl) (by kernel_rfl) (by kernel_rfl) (fun _ _ _ h => h) ⟨Or.inl ⟨by rfl, by (intro w'; go_simp)⟩, fun _ => rfl⟩ ?_
              refine wpAnyIn_take (i := 9) (v := .pointer (some ⟨g5, f * 2, none⟩)) rfl rfl (by kernel_rfl) (by kernel_rfl) (by kernel_rfl) (fun _ _ _ h => h) ⟨Or.inl ⟨by rfl, by (intro w'; go_simp)⟩, fun _ => rfl⟩ ?_
              refine wpAnyIn_ready (rs := [7, 10]) (by kernel_rfl) (by simp) ?_
              refine AllReadyIn.cons rfl (fun K hK => ?_) ?_
              · go_simp
                refine hK _ _ ?_
                clear hK K
                refine wpAnyIn_take (i := 8) (v := .slice (some ⟨w5.heap.size + 1, 1, none⟩) 2 2) rfl rfl (by kernel_rfl) (by kernel_rfl) (by kernel_rfl) (fun _ _ _ h => h) ⟨Or.inl ⟨by rfl, by (intro w'; go_simp)⟩, fun _ => rfl⟩ ?_
                refine wpAnyIn_ready (rs := [10]) (by kernel_rfl) (by simp) ?_
                refine AllReadyIn.cons rfl (fun K hK => ?_) ?_
                · go_simp
                  refine hK _ _ ?_
                  clear hK K
                  refine wpAnyIn_ready (rs := [11]) (by kernel_rfl) (by simp) ?_
                  refine AllReadyIn.cons rfl (fun K hK => ?_) ?_
                  · go_simp
                    refine hK _ _ ?_
                    clear hK K
                    refine wpAnyIn_done (by kernel_rfl) ?_ _
                    exact hX
                  exact AllReadyIn.nil
                exact AllReadyIn.nil
              refine AllReadyIn.cons rfl (fun K hK => ?_) ?_
              · go_simp
                refine hK _ _ ?_
                clear hK K
                refine wpAnyIn_ready (rs := [7]) (by kernel_rfl) (by simp) ?_
                refine AllReadyIn.cons rfl (fun K hK => ?_) ?_
                · go_simp
                  refine hK _ _ ?_
                  clear hK K
                  refine wpAnyIn_take (i := 8) (v := .slice (some ⟨w5.heap.size + 1, 1, none⟩) 2 2) rfl rfl (by kernel_rfl) (by kernel_rfl) (by kernel_rfl) (fun _ _ _ h => h) ⟨Or.inl ⟨by rfl, by (intro w'; go_simp)⟩, fun _ => rfl⟩ ?_
                  refine wpAnyIn_ready (rs := [11]) (by kernel_rfl) (by simp) ?_
                  refine AllReadyIn.cons rfl (fun K hK => ?_) ?_
                  · go_simp
                    refine hK _ _ ?_
                    clear hK K
                    refine wpAnyIn_done (by kernel_rfl) ?_ _
                    exact hX
                  exact AllReadyIn.nil
                exact AllReadyIn.nil
              exact AllReadyIn.nil
            refine AllReadyIn.cons rfl (fun K hK => ?_) ?_
            · go_simp
              refine hK _ _ ?_
              clear hK K
              refine wpAnyIn_take (i := 8) (v := .slice (some ⟨w5.heap.size + 1, 1, none⟩) 2 2) rfl rfl (by kernel_rfl) (by kernel_rfl) (by kernel_rfl) (fun _ _ _ h => h) ⟨Or.inl ⟨by rfl, by (intro w'; go_simp)⟩, fun _ => rfl⟩ ?_
              refine wpAnyIn_ready (rs := [4]) (by kernel_rfl) (by simp) ?_
              refine AllReadyIn.cons rfl (fun K hK => ?_) ?_
              · go_simp
                refine hK _ _ ?_
                clear hK K
                refine wpAnyIn_take (i := 6) (v := .agg #[.int .i64 v, .int .i64 u]) rfl rfl (by kernel_rfl) (by kernel_rfl) (by kernel_rfl) (fun _ _ _ h => h) ⟨Or.inl ⟨by rfl, by (intro w'; go_simp)⟩, fun _ => rfl⟩ ?_
                refine wpAnyIn_take (i := 9) (v := .pointer (some ⟨g5, f * 2, none⟩)) rfl rfl (by kernel_rfl) (by kernel_rfl) (by kernel_rfl) (fun _ _ _ h => h) ⟨Or.inl ⟨by rfl, by (intro w'; go_simp)⟩, fun _ => rfl⟩ ?_
                refine wpAnyIn_ready (rs := [10]) (by kernel_rfl) (by simp) ?_
                refine AllReadyIn.cons rfl (fun K hK => ?_) ?_
                · go_simp
                  refine hK _ _ ?_
                  clear hK K
                  refine wpAnyIn_ready (rs := [11]) (by kernel_rfl) (by simp) ?_
                  refine AllReadyIn.cons rfl (fun K hK => ?_) ?_
                  · go_simp
                    refine hK _ _ ?_
                    clear hK K
                    refine wpAnyIn_done (by kernel_rfl) ?_ _
                    exact hX
                  exact AllReadyIn.nil
                exact AllReadyIn.nil
              exact AllReadyIn.nil
            exact AllReadyIn.nil
          refine AllReadyIn.cons rfl (fun K hK => ?_) ?_
          · go_simp
            refine hK _ _ ?_
            clear hK K
            refine wpAnyIn_take (i := 6) (v := .agg #[.int .i64 v, .int .i64 u]) rfl rfl (by kernel_rfl) (by kernel_rfl) (by kernel_rfl) (fun _ _ _ h => h) ⟨Or.inl ⟨by rfl, by (intro w'; go_simp)⟩, fun _ => rfl⟩ ?_
            refine wpAnyIn_ready (rs := [0, 7]) (by kernel_rfl) (by simp) ?_
            refine AllReadyIn.cons rfl (fun K hK => ?_) ?_
            · go_simp
              refine hK _ _ ?_
              clear hK K
              refine wpAnyIn_take (i := 9) (v := .pointer (some ⟨g5, f * 2, none⟩)) rfl rfl (by kernel_rfl) (by kernel_rfl) (by kernel_rfl) (fun _ _ _ h => h) ⟨Or.inl ⟨by rfl, by (intro w'; go_simp)⟩, fun _ => rfl⟩ ?_
              refine wpAnyIn_ready (rs := [7, 10]) (by kernel_rfl) (by simp) ?_
              refine AllReadyIn.cons rfl (fun K hK => ?_) ?_
              · go_simp
                refine hK _ _ ?_
                clear hK K
                refine wpAnyIn_take (i := 8) (v := .slice (some ⟨w5.heap.size + 1, 1, none⟩) 2 2) rfl rfl (by kernel_rfl) (by kernel_rfl) (by kernel_rfl) (fun _ _ _ h => h) ⟨Or.inl ⟨by rfl, by (intro w'; go_simp)⟩, fun _ => rfl⟩ ?_
                refine wpAnyIn_ready (rs := [10]) (by kernel_rfl) (by simp) ?_
                refine AllReadyIn.cons rfl (fun K hK => ?_) ?_
                · go_simp
                  refine hK _ _ ?_
                  clear hK K
                  refine wpAnyIn_ready (rs := [11]) (by kernel_rfl) (by simp) ?_
                  refine AllReadyIn.cons rfl (fun K hK => ?_) ?_
                  · go_simp
                    refine hK _ _ ?_
                    clear hK K
                    refine wpAnyIn_done (by kernel_rfl) ?_ _
                    exact hX
                  exact AllReadyIn.nil
                exact AllReadyIn.nil
              refine AllReadyIn.cons rfl (fun K hK => ?_) ?_
              · go_simp
                refine hK _ _ ?_
                clear hK K
                refine wpAnyIn_ready (rs := [7]) (by kernel_rfl) (by simp) ?_
                refine AllReadyIn.cons rfl (fun K hK => ?_) ?_
                · go_simp
                  refine hK _ _ ?_
                  clear hK K
                  refine wpAnyIn_take (i := 8) (v := .slice (some ⟨w5.heap.size + 1, 1, none⟩) 2 2) rfl rfl (by kernel_rfl) (by kernel_rfl) (by kernel_rfl) (fun _ _ _ h => h) ⟨Or.inl ⟨by rfl, by (intro w'; go_simp)⟩, fun _ => rfl⟩ ?_
                  refine wpAnyIn_ready (rs := [11]) (by kernel_rfl) (by simp) ?_
                  refine AllReadyIn.cons rfl (fun K hK => ?_) ?_
                  · go_simp
                    refine hK _ _ ?_
                    clear hK K
                    refine wpAnyIn_done (by kernel_rfl) ?_ _
                    exact hX
                  exact AllReadyIn.nil
                exact AllReadyIn.nil
              exact AllReadyIn.nil
            refine AllReadyIn.cons rfl (fun K hK => ?_) ?_
            · go_simp
              refine hK _ _ ?_
              clear hK K
              refine wpAnyIn_take (i := 8) (v := .slice (some ⟨w5.heap.size + 1, 1, none⟩) 2 2) rfl rfl (by kernel_rfl) (by kernel_rfl) (by kernel_rfl) (fun _ _ _ h => h) ⟨Or.inl ⟨by rfl, by (intro w'; go_simp)⟩, fun _ => rfl⟩ ?_
              refine wpAnyIn_ready (rs := [0]) (by kernel_rfl) (by simp) ?_
              refine AllReadyIn.cons rfl (fun K hK => ?_) ?_
              · go_simp
                refine hK _ _ ?_
                clear hK K
                refine wpAnyIn_take (i := 9) (v := .pointer (some ⟨g5, f * 2, none⟩)) rfl rfl (by kernel_rfl) (by kernel_rfl) (by kernel_rfl) (fun _ _ _ h => h) ⟨Or.inl ⟨by rfl, by (intro w'; go_simp)⟩, fun _ => rfl⟩ ?_
                refine wpAnyIn_ready (rs := [10]) (by kernel_rfl) (by simp) ?_
                refine AllReadyIn.cons rfl (fun K hK => ?_) ?_
                · go_simp
                  refine hK _ _ ?_
                  clear hK K
                  refine wpAnyIn_ready (rs := [11]) (by kernel_rfl) (by simp) ?_
                  refine AllReadyIn.cons rfl (fun K hK => ?_) ?_
                  · go_simp
                    refine hK _ _ ?_
                    clear hK K
                    refine wpAnyIn_done (by kernel_rfl) ?_ _
                    exact hX
                  exact AllReadyIn.nil
                exact AllReadyIn.nil
              exact AllReadyIn.nil
            exact AllReadyIn.nil
          refine AllReadyIn.cons rfl (fun K hK => ?_) ?_
          · go_simp
            refine hK _ _ ?_
            clear hK K
            refine wpAnyIn_take (i := 8) (v := .slice (some ⟨w5.heap.size + 1, 1, none⟩) 2 2) rfl rfl (by kernel_rfl) (by kernel_rfl) (by kernel_rfl) (fun _ _ _ h => h) ⟨Or.inl ⟨by rfl, by (intro w'; go_simp)⟩, fun _ => rfl⟩ ?_
            refine wpAnyIn_ready (rs := [0, 4]) (by kernel_rfl) (by simp) ?_
            refine AllReadyIn.cons rfl (fun K hK => ?_) ?_
            · go_simp
              refine hK _ _ ?_
              clear hK K
              refine wpAnyIn_ready (rs := [4]) (by kernel_rfl) (by simp) ?_
              refine AllReadyIn.cons rfl (fun K hK => ?_) ?_
              · go_simp
                refine hK _ _ ?_
                clear hK K
                refine wpAnyIn_take (i := 6) (v := .agg #[.int .i64 v, .int .i64 u]) rfl rfl (by kernel_rfl) (by kernel_rfl) (by kernel_rfl) (fun _ _ _ h => h) ⟨Or.inl ⟨by rfl, by (intro w'; go_simp)⟩, fun _ => rfl⟩ ?_
                refine wpAnyIn_take (i := 9) (v := .pointer (some ⟨g5, f * 2, none⟩)) rfl rfl (by kernel_rfl) (by kernel_rfl) (by kernel_rfl) (fun _ _ _ h => h) ⟨Or.inl ⟨by rfl, by (intro w'; go_simp)⟩, fun _ => rfl⟩ ?_
                refine wpAnyIn_ready (rs := [10]) (by kernel_rfl) (by simp) ?_
                refine AllReadyIn.cons rfl (fun K hK => ?_) ?_
                · go_simp
                  refine hK _ _ ?_
                  clear hK K
                  refine wpAnyIn_ready (rs := [11]) (by kernel_rfl) (by simp) ?_
                  refine AllReadyIn.cons rfl (fun K hK => ?_) ?_
                  · go_simp
                    refine hK _ _ ?_
                    clear hK K
                    refine wpAnyIn_done (by kernel_rfl) ?_ _
                    exact hX
                  exact AllReadyIn.nil
                exact AllReadyIn.nil
              exact AllReadyIn.nil
            refine AllReadyIn.cons rfl (fun K hK => ?_) ?_
            · go_simp
              refine hK _ _ ?_
              clear hK K
              refine wpAnyIn_take (i := 6) (v := .agg #[.int .i64 v, .int .i64 u]) rfl rfl (by kernel_rfl) (by kernel_rfl) (by kernel_rfl) (fun _ _ _ h => h) ⟨Or.inl ⟨by rfl, by (intro w'; go_simp)⟩, fun _ => rfl⟩ ?_
              refine wpAnyIn_ready (rs := [0]) (by kernel_rfl) (by simp) ?_
              refine AllReadyIn.cons rfl (fun K hK => ?_) ?_
              · go_simp
                refine hK _ _ ?_
                clear hK K
                refine wpAnyIn_take (i := 9) (v := .pointer (some ⟨g5, f * 2, none⟩)) rfl rfl (by kernel_rfl) (by kernel_rfl) (by kernel_rfl) (fun _ _ _ h => h) ⟨Or.inl ⟨by rfl, by (intro w'; go_simp)⟩, fun _ => rfl⟩ ?_
                refine wpAnyIn_ready (rs := [10]) (by kernel_rfl) (by simp) ?_
                refine AllReadyIn.cons rfl (fun K hK => ?_) ?_
                · go_simp
                  refine hK _ _ ?_
                  clear hK K
                  refine wpAnyIn_ready (rs := [11]) (by kernel_rfl) (by simp) ?_
                  refine AllReadyIn.cons rfl (fun K hK => ?_) ?_
                  · go_simp
                    refine hK _ _ ?_
                    clear hK K
                    refine wpAnyIn_done (by kernel_rfl) ?_ _
                    exact hX
                  exact AllReadyIn.nil
                exact AllReadyIn.nil
              exact AllReadyIn.nil
            exact AllReadyIn.nil
          exact AllReadyIn.nil
        refine AllReadyIn.cons rfl (fun K hK => ?_) ?_
        · go_simp
          refine hK _ _ ?_
          clear hK K
          refine wpAnyIn_take (i := 8) (v := .slice (some ⟨w5.heap.size + 1, 1, none⟩) 2 2) rfl rfl (by kernel_rfl) (by kernel_rfl) (by kernel_rfl) (fun _ _ _ h => h) ⟨Or.inl ⟨by rfl, by (intro w'; go_simp)⟩, fun _ => rfl⟩ ?_
          refine wpAnyIn_ready (rs := [0, 2]) (by kernel_rfl) (by simp) ?_
          refine AllReadyIn.cons rfl (fun K hK => ?_) ?_
          · go_simp
            refine hK _ _ ?_
            clear hK K
            refine wpAnyIn_ready (rs := [2]) (by kernel_rfl) (by simp) ?_
            refine AllReadyIn.cons rfl (fun K hK => ?_) ?_
            · go_simp
              refine hK _ _ ?_
              clear hK K
              refine wpAnyIn_take (i := 3) (v := .pointer (some ⟨w5.heap.size + 1, 0, none⟩)) rfl rfl (by kernel_rfl) (by kernel_rfl) (by kernel_rfl) (fun _ _ _ h => h) ⟨Or.inl ⟨by rfl, by (intro w'; go_simp)⟩, fun _ => rfl⟩ ?_
              refine wpAnyIn_ready (rs := [4]) (by kernel_rfl) (by simp) ?_
              refine AllReadyIn.cons rfl (fun K hK => ?_) ?_
              · go_simp
                refine hK _ _ ?_
                clear hK K
                refine wpAnyIn_take (i := 6) (v := .agg #[.int .i64 v, .int .i64 u]) rfl rfl (by kernel_rfl) (by kernel_rfl) (by kernel_rfl) (fun _ _ _ h => h) ⟨Or.inl ⟨by rfl, by (intro w'; go_simp)⟩, fun _ => rfl⟩ ?_
                refine wpAnyIn_take (i := 9) (v := .pointer (some ⟨g5, f * 2, none⟩)) rfl rfl (by kernel_rfl) (by kernel_rfl) (by kernel_rfl) (fun _ _ _ h => h) ⟨Or.inl ⟨by rfl, by (intro w'; go_simp)⟩, fun _ => rfl⟩ ?_
                refine wpAnyIn_ready (rs := [10]) (by kernel_rfl) (by simp) ?_
                refine AllReadyIn.cons rfl (fun K hK => ?_) ?_
                · go_simp
                  refine hK _ _ ?_
                  clear hK K
                  refine wpAnyIn_ready (rs := [11]) (by kernel_rfl) (by simp) ?_
                  refine AllReadyIn.cons rfl (fun K hK => ?_) ?_
                  · go_simp
                    refine hK _ _ ?_
                    clear hK K
                    refine wpAnyIn_done (by kernel_rfl) ?_ _
                    exact hX
                  exact AllReadyIn.nil
                exact AllReadyIn.nil
              exact AllReadyIn.nil
            exact AllReadyIn.nil
          refine AllReadyIn.cons rfl (fun K hK => ?_) ?_
          · go_simp
            refine hK _ _ ?_
            clear hK K
            refine wpAnyIn_take (i := 3) (v := .pointer (some ⟨w5.heap.size + 1, 0, none⟩)) rfl rfl (by kernel_rfl) (by kernel_rfl) (by kernel_rfl) (fun _ _ _ h => h) ⟨Or.inl ⟨by rfl, by (intro w'; go_simp)⟩, fun _ => rfl⟩ ?_
            refine wpAnyIn_ready (rs := [0, 4]) (by kernel_rfl) (by simp) ?_
            refine AllReadyIn.cons rfl (fun K hK => ?_) ?_
            · go_simp
              refine hK _ _ ?_
              clear hK K
              refine wpAnyIn_ready (rs := [4]) (by kernel_rfl) (by simp) ?_
              refine AllReadyIn.cons rfl (fun K hK => ?_) ?_
              · go_simp
                refine hK _ _ ?_
                clear hK K
                refine wpAnyIn_take (i := 6) (v := .agg #[.int .i64 v, .int .i64 u]) rfl rfl (by kernel_rfl) (by kernel_rfl) (by kernel_rfl) (fun _ _ _ h => h) ⟨Or.inl ⟨by rfl, by (intro w'; go_simp)⟩, fun _ => rfl⟩ ?_
                refine wpAnyIn_take (i := 9) (v := .pointer (some ⟨g5, f * 2, none⟩)) rfl rfl (by kernel_rfl) (by kernel_rfl) (by kernel_rfl) (fun _ _ _ h => h) ⟨Or.inl ⟨by rfl, by (intro w'; go_simp)⟩, fun _ => rfl⟩ ?_
                refine wpAnyIn_ready (rs := [10]) (by kernel_rfl) (by simp) ?_
                refine AllReadyIn.cons rfl (fun K hK => ?_) ?_
                · go_simp
                  refine hK _ _ ?_
                  clear hK K
                  refine wpAnyIn_ready (rs := [11]) (by kernel_rfl) (by simp) ?_
                  refine AllReadyIn.cons rfl (fun K hK => ?_) ?_
                  · go_simp
                    refine hK _ _ ?_
                    clear hK K
                    refine wpAnyIn_done (by kernel_rfl) ?_ _
                    exact hX
                  exact AllReadyIn.nil
                exact AllReadyIn.nil
              exact AllReadyIn.nil
            refine AllReadyIn.cons rfl (fun K hK => ?_) ?_
            · go_simp
              refine hK _ _ ?_
              clear hK K
              refine wpAnyIn_take (i := 6) (v := .agg #[.int .i64 v, .int .i64 u]) rfl rfl (by kernel_rfl) (by kernel_rfl) (by kernel_rfl) (fun _ _ _ h => h) ⟨Or.inl ⟨by rfl, by (intro w'; go_simp)⟩, fun _ => rfl⟩ ?_
              refine wpAnyIn_ready (rs := [0]) (by kernel_rfl) (by simp) ?_
              refine AllReadyIn.cons rfl (fun K hK => ?_) ?_
              · go_simp
                refine hK _ _ ?_
                clear hK K
                refine wpAnyIn_take (i := 9) (v := .pointer (some ⟨g5, f * 2, none⟩)) rfl rfl (by kernel_rfl) (by kernel_rfl) (by kernel_rfl) (fun _ _ _ h => h) ⟨Or.inl ⟨by rfl, by (intro w'; go_simp)⟩, fun _ => rfl⟩ ?_
                refine wpAnyIn_ready (rs := [10]) (by kernel_rfl) (by simp) ?_
                refine AllReadyIn.cons rfl (fun K hK => ?_) ?_
                · go_simp
                  refine hK _ _ ?_
                  clear hK K
                  refine wpAnyIn_ready (rs := [11]) (by kernel_rfl) (by simp) ?_
                  refine AllReadyIn.cons rfl (fun K hK => ?_) ?_
                  · go_simp
                    refine hK _ _ ?_
                    clear hK K
                    refine wpAnyIn_done (by kernel_rfl) ?_ _
                    exact hX
                  exact AllReadyIn.nil
                exact AllReadyIn.nil
              exact AllReadyIn.nil
            exact AllReadyIn.nil
          exact AllReadyIn.nil
        exact AllReadyIn.nil
      · gi_wp2
        have ho9 : OwnE W.drew g5 cap5 (ovP N v (es ++ newT N v) (pre.map Subtype.val)) := HAll.out.1.keep rfl
        have hb9 : Boxed W.drew (w5.heap.size + 1 + 1) 34 _ := (show W.drew.heap[w5.heap.size + 1 + 1]? = W.heap[w5.heap.size + 1 + 1]? from rfl).trans HAll.out.2.2.2
        have hB9 : Below w2.heap.size w2 W.drew := HBW.out.drew
        have hs := ho9.set (k := f) (by rw [ovP_len, List.length_append]; omega) v u
        have hs2 := hs.far (a := ⟨w5.heap.size + 1 + 1, 0, none⟩) (by show g5 ≠ w5.heap.size + 1 + 1; omega) (.slice (some ⟨w5.heap.size + 1, 1, none⟩) 2 2)
        have hs3 := Boxed.set (.slice (some ⟨w5.heap.size + 1, 1, none⟩) 2 2) (show Boxed ((W.drew.setCell ⟨g5, f * 2, none⟩ (.int .i64 v)).setCell ⟨g5, f * 2 + 1, none⟩ (.int .i64 u)) (w5.heap.size + 1 + 1) 34 _ from (heap_setCell_other (W.drew.setCell ⟨g5, f * 2, none⟩ (.int .i64 v)) ⟨g5, f * 2 + 1, none⟩ (w5.heap.size + 1 + 1) (.int .i64 u) (by show w5.heap.size + 1 + 1 ≠ g5; omega)).trans ((heap_setCell_other W.drew ⟨g5, f * 2, none⟩ (w5.heap.size + 1 + 1) (.int .i64 v) (by show w5.heap.size + 1 + 1 ≠ g5; omega)).trans hb9))
        have hk9 := fun b hb hb8 => (heap_setCell_other ((W.drew.setCell ⟨g5, f * 2, none⟩ (.int .i64 v)).setCell ⟨g5, f * 2 + 1, none⟩ (.int .i64 u)) ⟨w5.heap.size + 1 + 1, 0, none⟩ b (.slice (some ⟨w5.heap.size + 1, 1, none⟩) 2 2) hb8).trans ((heap_setCell_other (W.drew.setCell ⟨g5, f * 2, none⟩ (.int .i64 v)) ⟨g5, f * 2 + 1, none⟩ b (.int .i64 u) hb).trans ((heap_setCell_other W.drew ⟨g5, f * 2, none⟩ b (.int .i64 v) hb).trans (show W.drew.heap[b]? = W.heap[b]? from rfl)))
        refine ⟨KeepsFrom.trans (Y := W.drew) ⟨Nat.le_refl _, fun k o _ hk _ => hk⟩ (((KeepsOthers.setCell W.drew _ _).trans ((KeepsOthers.setCell _ _ _).trans (KeepsOthers.setCell _ _ _))).from _), ⟨(((Below.refl w2.heap.size W).drew.setCell (p := ⟨g5, f * 2, none⟩) hg5 _).setCell (p := ⟨g5, f * 2 + 1, none⟩) hg5 _).setCell (p := ⟨w5.heap.size + 1 + 1, 0, none⟩) (by show w2.heap.size ≤ w5.heap.size + 1 + 1; omega) _, ?_⟩, ovAt_next (cj := v) (v8 := .slice (some ⟨w5.heap.size + 1, 1, none⟩) 2 2) ⟨(f, u), hfl, HEnc.out.1, HEnc.out.2⟩ ⟨HAll.out.1, HAll.out.2.1, HAll.out.2.2.1, _, HAll.out.2.2.2, fun _ => rfl⟩ HJ.out rfl hk9 hs2 hs3 (by omega) (by omega) (by omega) (by omega) (fun _ => rfl), ((hB9.setCell (p := ⟨g5, f * 2, none⟩) hg5 _).setCell (p := ⟨g5, f * 2 + 1, none⟩) hg5 _).setCell (p := ⟨w5.heap.size + 1 + 1, 0, none⟩) (by show w2.heap.size ≤ w5.heap.size + 1 + 1; omega) _⟩
        exact hk9 (w5.heap.size + 1 + 1 + 1 + 1) (by show w5.heap.size + 1 + 1 + 1 + 1 ≠ g5; omega) (by show w5.heap.size + 1 + 1 + 1 + 1 ≠ w5.heap.size + 1 + 1; omega)
    · rw [hj] at hc8
      have hcc : W.cell? ⟨w5.heap.size + 1, 1, none⟩ = some (.int .i64 N) := (cell_of_row W (w5.heap.size + 1) 1 _ _ _ h3).trans rfl
      have HJ := hid hj
      clear h1 h2 h3 h4 h5 hB hlt hj hll
      gi_wp2
      apply cut_later
      · intro hX
        refine region_round rfl (by kernel_rfl) (by kernel_rfl) ?_
        refine wpAnyIn_take (i := 1) (v := .int .i64 (f : Int)) rfl rfl (by kernel_rfl) (by kernel_rfl) (by kernel_rfl) (fun _ _ _ h => h) ⟨Or.inl ⟨by rfl, by (intro w'; go_simp)⟩, fun _ => rfl⟩ ?_
        refine wpAnyIn_take (i := 5) (v := .int .i64 u) rfl rfl (by kernel_rfl) (by kernel_rfl) (by kernel_rfl) (fun _ _ _ h => h) ⟨Or.inl ⟨by rfl, by (intro w'; go_simp)⟩, fun _ => rfl⟩ ?_
        refine wpAnyIn_ready (rs := [0, 2, 7]) (by kernel_rfl) (by simp) ?_
        refine AllReadyIn.cons rfl (fun K hK => ?_) ?_
        · go_simp
          refine hK _ _ ?_
          clear hK K
          refine wpAnyIn_ready (rs := [2, 7]) (by kernel_rfl) (by simp) ?_
          refine AllReadyIn.cons rfl (fun K hK => ?_) ?_
          · go_simp
            refine hK _ _ ?_
            clear hK K
            refine wpAnyIn_take (i := 3) (v := .pointer (some ⟨w5.heap.size + 1, 1, none⟩)) rfl rfl (by kernel_rfl) (by kernel_rfl) (by kernel_rfl) (fun _ _ _ h => h) ⟨Or.inl ⟨by rfl, by (intro w'; go_simp)⟩, fun _ => rfl⟩ ?_
            refine wpAnyIn_ready (rs := [4, 7]) (by kernel_rfl) (by simp) ?_
            refine AllReadyIn.cons rfl (fun K hK => ?_) ?_
            · go_simp
              refine hK _ _ ?_
              clear hK K
              refine wpAnyIn_take (i := 6) (v := .agg #[.int .i64 N, .int .i64 u]) rfl rfl (by kernel_rfl) (by kernel_rfl) (by kernel_rfl) (fun _ _ _ h => h) ⟨Or.inl ⟨by rfl, by (intro w'; go_simp)⟩, fun _ => rfl⟩ ?_
              refine wpAnyIn_take (i := 9) (v := .pointer (some ⟨g5, f * 2, none⟩)) rfl rfl (by kernel_rfl) (by kernel_rfl) (by kernel_rfl) (fun _ _ _ h => h) ⟨Or.inl ⟨by rfl, by (intro w'; go_simp)⟩, fun _ => rfl⟩ ?_
              refine wpAnyIn_ready (rs := [7, 10]) (by kernel_rfl) (by simp) ?_
              refine AllReadyIn.cons rfl (fun K hK => ?_) ?_
              · go_simp
                refine hK _ _ ?_
                clear hK K
                refine wpAnyIn_take (i := 8) (v := .slice (some ⟨w5.heap.size + 1, 2, none⟩) 1 1) rfl rfl (by kernel_rfl) (by kernel_rfl) (by kernel_rfl) (fun _ _ _ h => h) ⟨Or.inl ⟨by rfl, by (intro w'; go_simp)⟩, fun _ => rfl⟩ ?_
                refine wpAnyIn_ready (rs := [10]) (by kernel_rfl) (by simp) ?_
                refine AllReadyIn.cons rfl (fun K hK => ?_) ?_
                · go_simp
                  refine hK _ _ ?_
                  clear hK K
                  refine wpAnyIn_ready (rs := [11]) (by kernel_rfl) (by simp) ?_
                  refine AllReadyIn.cons rfl (fun K hK => ?_) ?_
                  · go_simp
                    refine hK _ _ ?_
                    clear hK K
                    refine wpAnyIn_done (by kernel_rfl) ?_ _
                    exact hX
                  exact AllReadyIn.nil
                exact AllReadyIn.nil
              refine AllReadyIn.cons rfl (fun K hK => ?_) ?_
              · go_simp
                refine hK _ _ ?_
                clear hK K
                refine wpAnyIn_ready (rs := [7]) (by kernel_rfl) (by simp) ?_
                refine AllReadyIn.cons rfl (fun K hK => ?_) ?_
                · go_simp
                  refine hK _ _ ?_
                  clear hK K
                  refine wpAnyIn_take (i := 8) (v := .slice (some ⟨w5.heap.size + 1, 2, none⟩) 1 1) rfl rfl (by kernel_rfl) (by kernel_rfl) (by kernel_rfl) (fun _ _ _ h => h) ⟨Or.inl ⟨by rfl, by (intro w'; go_simp)⟩, fun _ => rfl⟩ ?_
                  refine wpAnyIn_ready (rs := [11]) (by kernel_rfl) (by simp) ?_
                  refine AllReadyIn.cons rfl (fun K hK => ?_) ?_
                  · go_simp
                    refine hK _ _ ?_
                    clear hK K
                    refine wpAnyIn_done (by kernel_rfl) ?_ _
                    exact hX
                  exact AllReadyIn.nil
                exact AllReadyIn.nil
              exact AllReadyIn.nil
            refine AllReadyIn.cons rfl (fun K hK => ?_) ?_
            · go_simp
              refine hK _ _ ?_
              clear hK K
              refine wpAnyIn_take (i := 8) (v := .slice (some ⟨w5.heap.size + 1, 2, none⟩) 1 1) rfl rfl (by kernel_rfl) (by kernel_rfl) (by kernel_rfl) (fun _ _ _ h => h) ⟨Or.inl ⟨by rfl, by (intro w'; go_simp)⟩, fun _ => rfl⟩ ?_
              refine wpAnyIn_ready (rs := [4]) (by kernel_rfl) (by simp) ?_
              refine AllReadyIn.cons rfl (fun K hK => ?_) ?_
              · go_simp
                refine hK _ _ ?_
                clear hK K
                refine wpAnyIn_take (i := 6) (v := .agg #[.int .i64 N, .int .i64 u]) rfl rfl (by kernel_rfl) (by kernel_rfl) (by kernel_rfl) (fun _ _ _ h => h) ⟨Or.inl ⟨by rfl, by (intro w'; go_simp)⟩, fun _ => rfl⟩ ?_
                refine wpAnyIn_take (i := 9) (v := .pointer (some ⟨g5, f * 2, none⟩)) rfl rfl (by kernel_rfl) (by kernel_rfl) (by kernel_rfl) (fun _ _ _ h => h) ⟨Or.inl ⟨by rfl, by (intro w'; go_simp)⟩, fun _ => rfl⟩ ?_
                refine wpAnyIn_ready (rs := [10]) (by kernel_rfl) (by simp) ?_
                refine AllReadyIn.cons rfl (fun K hK => ?_) ?_
                · go_simp
                  refine hK _ _ ?_
                  clear hK K
                  refine wpAnyIn_ready (rs := [11]) (by kernel_rfl) (by simp) ?_
                  refine AllReadyIn.cons rfl (fun K hK => ?_) ?_
                  · go_simp
                    refine hK _ _ ?_
                    clear hK K
                    refine wpAnyIn_done (by kernel_rfl) ?_ _
                    exact hX
                  exact AllReadyIn.nil
                exact AllReadyIn.nil
              exact AllReadyIn.nil
            exact AllReadyIn.nil
          refine AllReadyIn.cons rfl (fun K hK => ?_) ?_
          · go_simp
            refine hK _ _ ?_
            clear hK K
            refine wpAnyIn_take (i := 8) (v := .slice (some ⟨w5.heap.size + 1, 2, none⟩) 1 1) rfl rfl (by kernel_rfl) (by kernel_rfl) (by kernel_rfl) (fun _ _ _ h => h) ⟨Or.inl ⟨by rfl, by (intro w'; go_simp)⟩, fun _ => rfl⟩ ?_
            refine wpAnyIn_ready (rs := [2]) (by kernel_rfl) (by simp) ?_
            refine AllReadyIn.cons rfl (fun K hK => ?_) ?_
            · go_simp
              refine hK _ _ ?_
              clear hK K
              refine wpAnyIn_take (i := 3) (v := .pointer (some ⟨w5.heap.size + 1, 1, none⟩)) rfl rfl (by kernel_rfl) (by kernel_rfl) (by kernel_rfl) (fun _ _ _ h => h) ⟨Or.inl ⟨by rfl, by (intro w'; go_simp)⟩, fun _ => rfl⟩ ?_
              refine wpAnyIn_ready (rs := [4]) (by kernel_rfl) (by simp) ?_
              refine AllReadyIn.cons rfl (fun K hK => ?_) ?_
              · go_simp
                refine hK _ _ ?_
                clear hK K
                refine wpAnyIn_take (i := 6) (v := .agg #[.int .i64 N, .int .i64 u]) rfl rfl (by kernel_rfl) (by kernel_rfl) (by kernel_rfl) (fun _ _ _ h => h) ⟨Or.inl ⟨by rfl, by (intro w'; go_simp)⟩, fun _ => rfl⟩ ?_
                refine wpAnyIn_take (i := 9) (v := .pointer (some ⟨g5, f * 2, none⟩)) rfl rfl (by kernel_rfl) (by kernel_rfl) (by kernel_rfl) (fun _ _ _ h => h) ⟨Or.inl ⟨by rfl, by (intro w'; go_simp)⟩, fun _ => rfl⟩ ?_
                refine wpAnyIn_ready (rs := [10]) (by kernel_rfl) (by simp) ?_
                refine AllReadyIn.cons rfl (fun K hK => ?_) ?_
                · go_simp
                  refine hK _ _ ?_
                  clear hK K
                  refine wpAnyIn_ready (rs := [11]) (by kernel_rfl) (by simp) ?_
                  refine AllReadyIn.cons rfl (fun K hK => ?_) ?_
                  · go_simp
                    refine hK _ _ ?_
                    clear hK K
                    refine wpAnyIn_done (by kernel_rfl) ?_ _
                    exact hX
                  exact AllReadyIn.nil
                exact AllReadyIn.nil
              exact AllReadyIn.nil
            exact AllReadyIn.nil
          exact AllReadyIn.nil
        refine AllReadyIn.cons rfl (fun K hK => ?_) ?_
        · go_simp
          refine hK _ _ ?_
          clear hK K
          refine wpAnyIn_take (i := 3) (v := .pointer (some ⟨w5.heap.size + 1, 1, none⟩)) rfl rfl (by kernel_rfl) (by kernel_rfl) (by kernel_rfl) (fun _ _ _ h => h) ⟨Or.inl ⟨by rfl, by (intro w'; go_simp)⟩, fun _ => rfl⟩ ?_
          refine wpAnyIn_ready (rs := [0, 4, 7]) (by kernel_rfl) (by simp) ?_
          refine AllReadyIn.cons rfl (fun K hK => ?_) ?_
          · go_simp
            refine hK _ _ ?_
            clear hK K
            refine wpAnyIn_ready (rs := [4, 7]) (by kernel_rfl) (by simp) ?_
            refine AllReadyIn.cons rfl (fun K hK => ?_) ?_
            · go_simp
              refine hK _ _ ?_
              clear hK K
              refine wpAnyIn_take (i := 6) (v := .agg #[.int .i64 N, .int .i64 u]) rfl rfl (by kernel_rfl) (by kernel_rfl) (by kernel_rfl) (fun _ _ _ h => h) ⟨Or.inl ⟨by rfl, by (intro w'; go_simp)⟩, fun _ => rfl⟩ ?_
              refine wpAnyIn_take (i := 9) (v := .pointer (some ⟨g5, f * 2, none⟩)) rfl rfl (by kernel_rfl) (by kernel_rfl) (by kernel_rfl) (fun _ _ _ h => h) ⟨Or.inl ⟨by rfl, by (intro w'; go_simp)⟩, fun _ => rfl⟩ ?_
              refine wpAnyIn_ready (rs := [7, 10]) (by kernel_rfl) (by simp) ?_
              refine AllReadyIn.cons rfl (fun K hK => ?_) ?_
              · go_simp
                refine hK _ _ ?_
                clear hK K
                refine wpAnyIn_take (i := 8) (v := .slice (some ⟨w5.heap.size + 1, 2, none⟩) 1 1) rfl rfl (by kernel_rfl) (by kernel_rfl) (by kernel_rfl) (fun _ _ _ h => h) ⟨Or.inl ⟨by rfl, by (intro w'; go_simp)⟩, fun _ => rfl⟩ ?_
                refine wpAnyIn_ready (rs := [10]) (by kernel_rfl) (by simp) ?_
                refine AllReadyIn.cons rfl (fun K hK => ?_) ?_
                · go_simp
                  refine hK _ _ ?_
                  clear hK K
                  refine wpAnyIn_ready (rs := [11]) (by kernel_rfl) (by simp) ?_
                  refine AllReadyIn.cons rfl (fun K hK => ?_) ?_
                  · go_simp
                    refine hK _ _ ?_
                    clear hK K
                    refine wpAnyIn_done (by kernel_rfl) ?_ _
                    exact hX
                  exact AllReadyIn.nil
                exact AllReadyIn.nil
              refine AllReadyIn.cons rfl (fun K hK => ?_) ?_
              · go_simp
                refine hK _ _ ?_
                clear hK K
                refine wpAnyIn_ready (rs := [7]) (by kernel_rfl) (by simp) ?_
                refine AllReadyIn.cons rfl (fun K hK => ?_) ?_
                · go_simp
                  refine hK _ _ ?_
                  clear hK K
                  refine wpAnyIn_take (i := 8) (v := .slice (some ⟨w5.heap.size + 1, 2, none⟩) 1 1) rfl rfl (by kernel_rfl) (by kernel_rfl) (by kernel_rfl) (fun _ _ _ h => h) ⟨Or.inl ⟨by rfl, by (intro w'; go_simp)⟩, fun _ => rfl⟩ ?_
                  refine wpAnyIn_ready (rs := [11]) (by kernel_rfl) (by simp) ?_
                  refine AllReadyIn.cons rfl (fun K hK => ?_) ?_
                  · go_simp
                    refine hK _ _ ?_
                    clear hK K
                    refine wpAnyIn_done (by kernel_rfl) ?_ _
                    exact hX
                  exact AllReadyIn.nil
                exact AllReadyIn.nil
              exact AllReadyIn.nil
            refine AllReadyIn.cons rfl (fun K hK => ?_) ?_
            · go_simp
              refine hK _ _ ?_
              clear hK K
              refine wpAnyIn_take (i := 8) (v := .slice (some ⟨w5.heap.size + 1, 2, none⟩) 1 1) rfl rfl (by kernel_rfl) (by kernel_rfl) (by kernel_rfl) (fun _ _ _ h => h) ⟨Or.inl ⟨by rfl, by (intro w'; go_simp)⟩, fun _ => rfl⟩ ?_
              refine wpAnyIn_ready (rs := [4]) (by kernel_rfl) (by simp) ?_
              refine AllReadyIn.cons rfl (fun K hK => ?_) ?_
              · go_simp
                refine hK _ _ ?_
                clear hK K
                refine wpAnyIn_take (i := 6) (v := .agg #[.int .i64 N, .int .i64 u]) rfl rfl (by kernel_rfl) (by kernel_rfl) (by kernel_rfl) (fun _ _ _ h => h) ⟨Or.inl ⟨by rfl, by (intro w'; go_simp)⟩, fun _ => rfl⟩ ?_
                refine wpAnyIn_take (i := 9) (v := .pointer (some ⟨g5, f * 2, none⟩)) rfl rfl (by kernel_rfl) (by kernel_rfl) (by kernel_rfl) (fun _ _ _ h => h) ⟨Or.inl ⟨by rfl, by (intro w'; go_simp)⟩, fun _ => rfl⟩ ?_
                refine wpAnyIn_ready (rs := [10]) (by kernel_rfl) (by simp) ?_
                refine AllReadyIn.cons rfl (fun K hK => ?_) ?_
                · go_simp
                  refine hK _ _ ?_
                  clear hK K
                  refine wpAnyIn_ready (rs := [11]) (by kernel_rfl) (by simp) ?_
                  refine AllReadyIn.cons rfl (fun K hK => ?_) ?_
                  · go_simp
                    refine hK _ _ ?_
                    clear hK K
                    refine wpAnyIn_done (by kernel_rfl) ?_ _
                    exact hX
                  exact AllReadyIn.nil
                exact AllReadyIn.nil
              exact AllReadyIn.nil
            exact AllReadyIn.nil
          refine AllReadyIn.cons rfl (fun K hK => ?_) ?_
          · go_simp
            refine hK _ _ ?_
            clear hK K
            refine wpAnyIn_take (i := 6) (v := .agg #[.int .i64 N, .int .i64 u]) rfl rfl (by kernel_rfl) (by kernel_rfl) (by kernel_rfl) (fun _ _ _ h => h) ⟨Or.inl ⟨by rfl, by (intro w'; go_simp)⟩, fun _ => rfl⟩ ?_
            refine wpAnyIn_ready (rs := [0, 7]) (by kernel_rfl) (by simp) ?_
            refine AllReadyIn.cons rfl (fun K hK => ?_) ?_
            · go_simp
              refine hK _ _ ?_
              clear hK K
              refine wpAnyIn_take (i := 9) (v := .pointer (some ⟨g5, f * 2, none⟩)) rfl rfl (by kernel_rfl) (by kernel_rfl) (by kernel_rfl) (fun _ _ _ h => h) ⟨Or.inl ⟨by rfl, by (intro w'; go_simp)⟩, fun _ => rfl⟩ ?_
              refine wpAnyIn_ready (rs := [7, 10]) (by kernel_rfl) (by simp) ?_
              refine AllReadyIn.cons rfl (fun K hK => ?_) ?_
              · go_simp
                refine hK _ _ ?_
                clear hK K
                refine wpAnyIn_take (i := 8) (v := .slice (some ⟨w5.heap.size + 1, 2, none⟩) 1 1) rfl rfl (by kernel_rfl) (by kernel_rfl) (by kernel_rfl) (fun _ _ _ h => h) ⟨Or.inl ⟨by rfl, by (intro w'; go_simp)⟩, fun _ => rfl⟩ ?_
                refine wpAnyIn_ready (rs := [10]) (by kernel_rfl) (by simp) ?_
                refine AllReadyIn.cons rfl (fun K hK => ?_) ?_
                · go_simp
                  refine hK _ _ ?_
                  clear hK K
                  refine wpAnyIn_ready (rs := [11]) (by kernel_rfl) (by simp) ?_
                  refine AllReadyIn.cons rfl (fun K hK => ?_) ?_
                  · go_simp
                    refine hK _ _ ?_
                    clear hK K
                    refine wpAnyIn_done (by kernel_rfl) ?_ _
                    exact hX
                  exact AllReadyIn.nil
                exact AllReadyIn.nil
              refine AllReadyIn.cons rfl (fun K hK => ?_) ?_
              · go_simp
                refine hK _ _ ?_
                clear hK K
                refine wpAnyIn_ready (rs := [7]) (by kernel_rfl) (by simp) ?_
                refine AllReadyIn.cons rfl (fun K hK => ?_) ?_
                · go_simp
                  refine hK _ _ ?_
                  clear hK K
                  refine wpAnyIn_take (i := 8) (v := .slice (some ⟨w5.heap.size + 1, 2, none⟩) 1 1) rfl rfl (by kernel_rfl) (by kernel_rfl) (by kernel_rfl) (fun _ _ _ h => h) ⟨Or.inl ⟨by rfl, by (intro w'; go_simp)⟩, fun _ => rfl⟩ ?_
                  refine wpAnyIn_ready (rs := [11]) (by kernel_rfl) (by simp) ?_
                  refine AllReadyIn.cons rfl (fun K hK => ?_) ?_
                  · go_simp
                    refine hK _ _ ?_
                    clear hK K
                    refine wpAnyIn_done (by kernel_rfl) ?_ _
                    exact hX
                  exact AllReadyIn.nil
                exact AllReadyIn.nil
              exact AllReadyIn.nil
            refine AllReadyIn.cons rfl (fun K hK => ?_) ?_
            · go_simp
              refine hK _ _ ?_
              clear hK K
              refine wpAnyIn_take (i := 8) (v := .slice (some ⟨w5.heap.size + 1, 2, none⟩) 1 1) rfl rfl (by kernel_rfl) (by kernel_rfl) (by kernel_rfl) (fun _ _ _ h => h) ⟨Or.inl ⟨by rfl, by (intro w'; go_simp)⟩, fun _ => rfl⟩ ?_
              refine wpAnyIn_ready (rs := [0]) (by kernel_rfl) (by simp) ?_
              refine AllReadyIn.cons rfl (fun K hK => ?_) ?_
              · go_simp
                refine hK _ _ ?_
                clear hK K
                refine wpAnyIn_take (i := 9) (v := .pointer (some ⟨g5, f * 2, none⟩)) rfl rfl (by kernel_rfl) (by kernel_rfl) (by kernel_rfl) (fun _ _ _ h => h) ⟨Or.inl ⟨by rfl, by (intro w'; go_simp)⟩, fun _ => rfl⟩ ?_
                refine wpAnyIn_ready (rs := [10]) (by kernel_rfl) (by simp) ?_
                refine AllReadyIn.cons rfl (fun K hK => ?_) ?_
                · go_simp
                  refine hK _ _ ?_
                  clear hK K
                  refine wpAnyIn_ready (rs := [11]) (by kernel_rfl) (by simp) ?_
                  refine AllReadyIn.cons rfl (fun K hK => ?_) ?_
                  · go_simp
                    refine hK _ _ ?_
                    clear hK K
                    refine wpAnyIn_done (by kernel_rfl) ?_ _
                    exact hX
                  exact AllReadyIn.nil
                exact AllReadyIn.nil
              exact AllReadyIn.nil
            exact AllReadyIn.nil
          refine AllReadyIn.cons rfl (fun K hK => ?_) ?_
          · go_simp
            refine hK _ _ ?_
            clear hK K
            refine wpAnyIn_take (i := 8) (v := .slice (some ⟨w5.heap.size + 1, 2, none⟩) 1 1) rfl rfl (by kernel_rfl) (by kernel_rfl) (by kernel_rfl) (fun _ _ _ h => h) ⟨Or.inl ⟨by rfl, by (intro w'; go_simp)⟩, fun _ => rfl⟩ ?_
            refine wpAnyIn_ready (rs := [0, 4]) (by kernel_rfl) (by simp) ?_
            refine AllReadyIn.cons rfl (fun K hK => ?_) ?_
            · go_simp
              refine hK _ _ ?_
              clear hK K
              refine wpAnyIn_ready (rs := [4]) (by kernel_rfl) (by simp) ?_
              refine AllReadyIn.cons rfl (fun K hK => ?_) ?_
              · go_simp
                refine hK _ _ ?_
                clear hK K
                refine wpAnyIn_take (i := 6) (v := .agg #[.int .i64 N, .int .i64 u]) rfl rfl (by kernel_rfl) (by kernel_rfl) (by kernel_rfl) (fun _ _ _ h => h) ⟨Or.inl ⟨by rfl, by (intro w'; go_simp)⟩, fun _ => rfl⟩ ?_
                refine wpAnyIn_take (i := 9) (v := .pointer (some ⟨g5, f * 2, none⟩)) rfl rfl (by kernel_rfl) (by kernel_rfl) (by kernel_rfl) (fun _ _ _ h => h) ⟨Or.inl ⟨by rfl, by (intro w'; go_simp)⟩, fun _ => rfl⟩ ?_
                refine wpAnyIn_ready (rs := [10]) (by kernel_rfl) (by simp) ?_
                refine AllReadyIn.cons rfl (fun K hK => ?_) ?_
                · go_simp
                  refine hK _ _ ?_
                  clear hK K
                  refine wpAnyIn_ready (rs := [11]) (by kernel_rfl) (by simp) ?_
                  refine AllReadyIn.cons rfl (fun K hK => ?_) ?_
                  · go_simp
                    refine hK _ _ ?_
                    clear hK K
                    refine wpAnyIn_done (by kernel_rfl) ?_ _
                    exact hX
                  exact AllReadyIn.nil
                exact AllReadyIn.nil
              exact AllReadyIn.nil
            refine AllReadyIn.cons rfl (fun K hK => ?_) ?_
            · go_simp
              refine hK _ _ ?_
              clear hK K
              refine wpAnyIn_take (i := 6) (v := .agg #[.int .i64 N, .int .i64 u]) rfl rfl (by kernel_rfl) (by kernel_rfl) (by kernel_rfl) (fun _ _ _ h => h) ⟨Or.inl ⟨by rfl, by (intro w'; go_simp)⟩, fun _ => rfl⟩ ?_
              refine wpAnyIn_ready (rs := [0]) (by kernel_rfl) (by simp) ?_
              refine AllReadyIn.cons rfl (fun K hK => ?_) ?_
              · go_simp
                refine hK _ _ ?_
                clear hK K
                refine wpAnyIn_take (i := 9) (v := .pointer (some ⟨g5, f * 2, none⟩)) rfl rfl (by kernel_rfl) (by kernel_rfl) (by kernel_rfl) (fun _ _ _ h => h) ⟨Or.inl ⟨by rfl, by (intro w'; go_simp)⟩, fun _ => rfl⟩ ?_
                refine wpAnyIn_ready (rs := [10]) (by kernel_rfl) (by simp) ?_
                refine AllReadyIn.cons rfl (fun K hK => ?_) ?_
                · go_simp
                  refine hK _ _ ?_
                  clear hK K
                  refine wpAnyIn_ready (rs := [11]) (by kernel_rfl) (by simp) ?_
                  refine AllReadyIn.cons rfl (fun K hK => ?_) ?_
                  · go_simp
                    refine hK _ _ ?_
                    clear hK K
                    refine wpAnyIn_done (by kernel_rfl) ?_ _
                    exact hX
                  exact AllReadyIn.nil
                exact AllReadyIn.nil
              exact AllReadyIn.nil
            exact AllReadyIn.nil
          exact AllReadyIn.nil
        refine AllReadyIn.cons rfl (fun K hK => ?_) ?_
        · go_simp
          refine hK _ _ ?_
          clear hK K
          refine wpAnyIn_take (i := 8) (v := .slice (some ⟨w5.heap.size + 1, 2, none⟩) 1 1) rfl rfl (by kernel_rfl) (by kernel_rfl) (by kernel_rfl) (fun _ _ _ h => h) ⟨Or.inl ⟨by rfl, by (intro w'; go_simp)⟩, fun _ => rfl⟩ ?_
          refine wpAnyIn_ready (rs := [0, 2]) (by kernel_rfl) (by simp) ?_
          refine AllReadyIn.cons rfl (fun K hK => ?_) ?_
          · go_simp
            refine hK _ _ ?_
            clear hK K
            refine wpAnyIn_ready (rs := [2]) (by kernel_rfl) (by simp) ?_
            refine AllReadyIn.cons rfl (fun K hK => ?_) ?_
            · go_simp
              refine hK _ _ ?_
              clear hK K
              refine wpAnyIn_take (i := 3) (v := .pointer (some ⟨w5.heap.size + 1, 1, none⟩)) rfl rfl (by kernel_rfl) (by kernel_rfl) (by kernel_rfl) (fun _ _ _ h => h) ⟨Or.inl ⟨by rfl, by (intro w'; go_simp)⟩, fun _ => rfl⟩ ?_
              refine wpAnyIn_ready (rs := [4]) (by kernel_rfl) (by simp) ?_
              refine AllReadyIn.cons rfl (fun K hK => ?_) ?_
              · go_simp
                refine hK _ _ ?_
                clear hK K
                refine wpAnyIn_take (i := 6) (v := .agg #[.int .i64 N, .int .i64 u]) rfl rfl (by kernel_rfl) (by kernel_rfl) (by kernel_rfl) (fun _ _ _ h => h) ⟨Or.inl ⟨by rfl, by (intro w'; go_simp)⟩, fun _ => rfl⟩ ?_
                refine wpAnyIn_take (i := 9) (v := .pointer (some ⟨g5, f * 2, none⟩)) rfl rfl (by kernel_rfl) (by kernel_rfl) (by kernel_rfl) (fun _ _ _ h => h) ⟨Or.inl ⟨by rfl, by (intro w'; go_simp)⟩, fun _ => rfl⟩ ?_
                refine wpAnyIn_ready (rs := [10]) (by kernel_rfl) (by simp) ?_
                refine AllReadyIn.cons rfl (fun K hK => ?_) ?_
                · go_simp
                  refine hK _ _ ?_
                  clear hK K
                  refine wpAnyIn_ready (rs := [11]) (by kernel_rfl) (by simp) ?_
                  refine AllReadyIn.cons rfl (fun K hK => ?_) ?_
                  · go_simp
                    refine hK _ _ ?_
                    clear hK K
                    refine wpAnyIn_done (by kernel_rfl) ?_ _
                    exact hX
                  exact AllReadyIn.nil
                exact AllReadyIn.nil
              exact AllReadyIn.nil
            exact AllReadyIn.nil
          refine AllReadyIn.cons rfl (fun K hK => ?_) ?_
          · go_simp
            refine hK _ _ ?_
            clear hK K
            refine wpAnyIn_take (i := 3) (v := .pointer (some ⟨w5.heap.size + 1, 1, none⟩)) rfl rfl (by kernel_rfl) (by kernel_rfl) (by kernel_rfl) (fun _ _ _ h => h) ⟨Or.inl ⟨by rfl, by (intro w'; go_simp)⟩, fun _ => rfl⟩ ?_
            refine wpAnyIn_ready (rs := [0, 4]) (by kernel_rfl) (by simp) ?_
            refine AllReadyIn.cons rfl (fun K hK => ?_) ?_
            · go_simp
              refine hK _ _ ?_
              clear hK K
              refine wpAnyIn_ready (rs := [4]) (by kernel_rfl) (by simp) ?_
              refine AllReadyIn.cons rfl (fun K hK => ?_) ?_
              · go_simp
                refine hK _ _ ?_
                clear hK K
                refine wpAnyIn_take (i := 6) (v := .agg #[.int .i64 N, .int .i64 u]) rfl rfl (by kernel_rfl) (by kernel_rfl) (by kernel_rfl) (fun _ _ _ h => h) ⟨Or.inl ⟨by rfl, by (intro w'; go_simp)⟩, fun _ => rfl⟩ ?_
                refine wpAnyIn_take (i := 9) (v := .pointer (some ⟨g5, f * 2, none⟩)) rfl rfl (by kernel_rfl) (by kernel_rfl) (by kernel_rfl) (fun _ _ _ h => h) ⟨Or.inl ⟨by rfl, by (intro w'; go_simp)⟩, fun _ => rfl⟩ ?_
                refine wpAnyIn_ready (rs := [10]) (by kernel_rfl) (by simp) ?_
                refine AllReadyIn.cons rfl (fun K hK => ?_) ?_
                · go_simp
                  refine hK _ _ ?_
                  clear hK K
                  refine wpAnyIn_ready (rs := [11]) (by kernel_rfl) (by simp) ?_
                  refine AllReadyIn.cons rfl (fun K hK => ?_) ?_
                  · go_simp
                    refine hK _ _ ?_
                    clear hK K
                    refine wpAnyIn_done (by kernel_rfl) ?_ _
                    exact hX
                  exact AllReadyIn.nil
                exact AllReadyIn.nil
              exact AllReadyIn.nil
            refine AllReadyIn.cons rfl (fun K hK => ?_) ?_
            · go_simp
              refine hK _ _ ?_
              clear hK K
              refine wpAnyIn_take (i := 6) (v := .agg #[.int .i64 N, .int .i64 u]) rfl rfl (by kernel_rfl) (by kernel_rfl) (by kernel_rfl) (fun _ _ _ h => h) ⟨Or.inl ⟨by rfl, by (intro w'; go_simp)⟩, fun _ => rfl⟩ ?_
              refine wpAnyIn_ready (rs := [0]) (by kernel_rfl) (by simp) ?_
              refine AllReadyIn.cons rfl (fun K hK => ?_) ?_
              · go_simp
                refine hK _ _ ?_
                clear hK K
                refine wpAnyIn_take (i := 9) (v := .pointer (some ⟨g5, f * 2, none⟩)) rfl rfl (by kernel_rfl) (by kernel_rfl) (by kernel_rfl) (fun _ _ _ h => h) ⟨Or.inl ⟨by rfl, by (intro w'; go_simp)⟩, fun _ => rfl⟩ ?_
                refine wpAnyIn_ready (rs := [10]) (by kernel_rfl) (by simp) ?_
                refine AllReadyIn.cons rfl (fun K hK => ?_) ?_
                · go_simp
                  refine hK _ _ ?_
                  clear hK K
                  refine wpAnyIn_ready (rs := [11]) (by kernel_rfl) (by simp) ?_
                  refine AllReadyIn.cons rfl (fun K hK => ?_) ?_
                  · go_simp
                    refine hK _ _ ?_
                    clear hK K
                    refine wpAnyIn_done (by kernel_rfl) ?_ _
                    exact hX
                  exact AllReadyIn.nil
                exact AllReadyIn.nil
              exact AllReadyIn.nil
            exact AllReadyIn.nil
          exact AllReadyIn.nil
        exact AllReadyIn.nil
      · gi_wp2
        have ho9 : OwnE W.drew g5 cap5 (ovP N v (es ++ newT N v) (pre.map Subtype.val)) := HAll.out.1.keep rfl
        have hb9 : Boxed W.drew (w5.heap.size + 1 + 1) 34 _ := (show W.drew.heap[w5.heap.size + 1 + 1]? = W.heap[w5.heap.size + 1 + 1]? from rfl).trans HAll.out.2.2.2
        have hB9 : Below w2.heap.size w2 W.drew := HBW.out.drew
        have hs := ho9.set (k := f) (by rw [ovP_len, List.length_append]; omega) N u
        have hs2 := hs.far (a := ⟨w5.heap.size + 1 + 1, 0, none⟩) (by show g5 ≠ w5.heap.size + 1 + 1; omega) (.slice (some ⟨w5.heap.size + 1, 2, none⟩) 1 1)
        have hs3 := Boxed.set (.slice (some ⟨w5.heap.size + 1, 2, none⟩) 1 1) (show Boxed ((W.drew.setCell ⟨g5, f * 2, none⟩ (.int .i64 N)).setCell ⟨g5, f * 2 + 1, none⟩ (.int .i64 u)) (w5.heap.size + 1 + 1) 34 _ from (heap_setCell_other (W.drew.setCell ⟨g5, f * 2, none⟩ (.int .i64 N)) ⟨g5, f * 2 + 1, none⟩ (w5.heap.size + 1 + 1) (.int .i64 u) (by show w5.heap.size + 1 + 1 ≠ g5; omega)).trans ((heap_setCell_other W.drew ⟨g5, f * 2, none⟩ (w5.heap.size + 1 + 1) (.int .i64 N) (by show w5.heap.size + 1 + 1 ≠ g5; omega)).trans hb9))
        have hk9 := fun b hb hb8 => (heap_setCell_other ((W.drew.setCell ⟨g5, f * 2, none⟩ (.int .i64 N)).setCell ⟨g5, f * 2 + 1, none⟩ (.int .i64 u)) ⟨w5.heap.size + 1 + 1, 0, none⟩ b (.slice (some ⟨w5.heap.size + 1, 2, none⟩) 1 1) hb8).trans ((heap_setCell_other (W.drew.setCell ⟨g5, f * 2, none⟩ (.int .i64 N)) ⟨g5, f * 2 + 1, none⟩ b (.int .i64 u) hb).trans ((heap_setCell_other W.drew ⟨g5, f * 2, none⟩ b (.int .i64 N) hb).trans (show W.drew.heap[b]? = W.heap[b]? from rfl)))
        refine ⟨KeepsFrom.trans (Y := W.drew) ⟨Nat.le_refl _, fun k o _ hk _ => hk⟩ (((KeepsOthers.setCell W.drew _ _).trans ((KeepsOthers.setCell _ _ _).trans (KeepsOthers.setCell _ _ _))).from _), ⟨(((Below.refl w2.heap.size W).drew.setCell (p := ⟨g5, f * 2, none⟩) hg5 _).setCell (p := ⟨g5, f * 2 + 1, none⟩) hg5 _).setCell (p := ⟨w5.heap.size + 1 + 1, 0, none⟩) (by show w2.heap.size ≤ w5.heap.size + 1 + 1; omega) _, ?_⟩, ovAt_next (cj := N) (v8 := .slice (some ⟨w5.heap.size + 1, 2, none⟩) 1 1) ⟨(f, u), hfl, HEnc.out.1, HEnc.out.2⟩ ⟨HAll.out.1, HAll.out.2.1, HAll.out.2.2.1, _, HAll.out.2.2.2, fun _ => rfl⟩ HJ.out (by unfold cornF; rw [if_neg (by omega)]; omega) hk9 hs2 hs3 (by omega) (by omega) (by omega) (by omega) (fun _ => rfl), ((hB9.setCell (p := ⟨g5, f * 2, none⟩) hg5 _).setCell (p := ⟨g5, f * 2 + 1, none⟩) hg5 _).setCell (p := ⟨w5.heap.size + 1 + 1, 0, none⟩) (by show w2.heap.size ≤ w5.heap.size + 1 + 1; omega) _⟩
        exact hk9 (w5.heap.size + 1 + 1 + 1 + 1) (by show w5.heap.size + 1 + 1 + 1 + 1 ≠ g5; omega) (by show w5.heap.size + 1 + 1 + 1 + 1 ≠ w5.heap.size + 1 + 1; omega)
    · rw [hj] at hc8
      have hcc : W.cell? ⟨w5.heap.size + 1, 2, none⟩ = some (.int .i64 ((N : Int) + 1)) := (cell_of_row W (w5.heap.size + 1) 2 _ _ _ h3).trans rfl
      have HJ := hid hj
      clear h1 h2 h3 h4 h5 hB hlt hj hll
      gi_wp2
      apply cut_later
      · intro hX
        refine region_round rfl (by kernel_rfl) (by kernel_rfl) ?_
        refine wpAnyIn_take (i := 1) (v := .int .i64 (f : Int)) rfl rfl (by kernel_rfl) (by kernel_rfl) (by kernel_rfl) (fun _ _ _ h => h) ⟨Or.inl ⟨by rfl, by (intro w'; go_simp)⟩, fun _ => rfl⟩ ?_
        refine wpAnyIn_take (i := 5) (v := .int .i64 u) rfl rfl (by kernel_rfl) (by kernel_rfl) (by kernel_rfl) (fun _ _ _ h => h) ⟨Or.inl ⟨by rfl, by (intro w'; go_simp)⟩, fun _ => rfl⟩ ?_
        refine wpAnyIn_ready (rs := [0, 2, 7]) (by kernel_rfl) (by simp) ?_
        refine AllReadyIn.cons rfl (fun K hK => ?_) ?_
        · go_simp
          refine hK _ _ ?_
          clear hK K
          refine wpAnyIn_ready (rs := [2, 7]) (by kernel_rfl) (by simp) ?_
          refine AllReadyIn.cons rfl (fun K hK => ?_) ?_
          · go_simp
            refine hK _ _ ?_
            clear hK K
            refine wpAnyIn_take (i := 3) (v := .pointer (some ⟨w5.heap.size + 1, 2, none⟩)) rfl rfl (by kernel_rfl) (by kernel_rfl) (by kernel_rfl) (fun _ _ _ h => h) ⟨Or.inl ⟨by rfl, by (intro w'; go_simp)⟩, fun _ => rfl⟩ ?_
            refine wpAnyIn_ready (rs := [4, 7]) (by kernel_rfl) (by simp) ?_
            refine AllReadyIn.cons rfl (fun K hK => ?_) ?_
            · go_simp
              refine hK _ _ ?_
              clear hK K
              refine wpAnyIn_take (i := 6) (v := .agg #[.int .i64 ((N : Int) + 1), .int .i64 u]) rfl rfl (by kernel_rfl) (by kernel_rfl) (by kernel_rfl) (fun _ _ _ h => h) ⟨Or.inl ⟨by rfl, by (intro w'; go_simp)⟩, fun _ => rfl⟩ ?_
              refine wpAnyIn_take (i := 9) (v := .pointer (some ⟨g5, f * 2, none⟩)) rfl rfl (by kernel_rfl) (by kernel_rfl) (by kernel_rfl) (fun _ _ _ h => h) ⟨Or.inl ⟨by rfl, by (intro w'; go_simp)⟩, fun _ => rfl⟩ ?_
              refine wpAnyIn_ready (rs := [7, 10]) (by kernel_rfl) (by simp) ?_
              refine AllReadyIn.cons rfl (fun K hK => ?_) ?_
              · go_simp
                refine hK _ _ ?_
                clear hK K
                refine wpAnyIn_take (i := 8) (v := .slice (some ⟨w5.heap.size + 1, 2, none⟩) 0 0) rfl rfl (by kernel_rfl) (by kernel_rfl) (by kernel_rfl) (fun _ _ _ h => h) ⟨Or.inl ⟨by rfl, by (intro w'; go_simp)⟩, fun _ => rfl⟩ ?_
                refine wpAnyIn_ready (rs := [10]) (by kernel_rfl) (by simp) ?_
                refine AllReadyIn.cons rfl (fun K hK => ?_) ?_
                · go_simp
                  refine hK _ _ ?_
                  clear hK K
                  refine wpAnyIn_ready (rs := [11]) (by kernel_rfl) (by simp) ?_
                  refine AllReadyIn.cons rfl (fun K hK => ?_) ?_
                  · go_simp
                    refine hK _ _ ?_
                    clear hK K
                    refine wpAnyIn_done (by kernel_rfl) ?_ _
                    exact hX
                  exact AllReadyIn.nil
                exact AllReadyIn.nil
              refine AllReadyIn.cons rfl (fun K hK => ?_) ?_
              · go_simp
                refine hK _ _ ?_
                clear hK K
                refine wpAnyIn_ready (rs := [7]) (by kernel_rfl) (by simp) ?_
                refine AllReadyIn.cons rfl (fun K hK => ?_) ?_
                · go_simp
                  refine hK _ _ ?_
                  clear hK K
                  refine wpAnyIn_take (i := 8) (v := .slice (some ⟨w5.heap.size + 1, 2, none⟩) 0 0) rfl rfl (by kernel_rfl) (by kernel_rfl) (by kernel_rfl) (fun _ _ _ h => h) ⟨Or.inl ⟨by rfl, by (intro w'; go_simp)⟩, fun _ => rfl⟩ ?_
                  refine wpAnyIn_ready (rs := [11]) (by kernel_rfl) (by simp) ?_
                  refine AllReadyIn.cons rfl (fun K hK => ?_) ?_
                  · go_simp
                    refine hK _ _ ?_
                    clear hK K
                    refine wpAnyIn_done (by kernel_rfl) ?_ _
                    exact hX
                  exact AllReadyIn.nil
                exact AllReadyIn.nil
              exact AllReadyIn.nil
            refine AllReadyIn.cons rfl (fun K hK => ?_) ?_
            · go_simp
              refine hK _ _ ?_
              clear hK K
              refine wpAnyIn_take (i := 8) (v := .slice (some ⟨w5.heap.size + 1, 2, none⟩) 0 0) rfl rfl (by kernel_rfl) (by kernel_rfl) (by kernel_rfl) (fun _ _ _ h => h) ⟨Or.inl ⟨by rfl, by (intro w'; go_simp)⟩, fun _ => rfl⟩ ?_
              refine wpAnyIn_ready (rs := [4]) (by kernel_rfl) (by simp) ?_
              refine AllReadyIn.cons rfl (fun K hK => ?_) ?_
              · go_simp
                refine hK _ _ ?_
                clear hK K
                refine wpAnyIn_take (i := 6) (v := .agg #[.int .i64 ((N : Int) + 1), .int .i64 u]) rfl rfl (by kernel_rfl) (by kernel_rfl) (by kernel_rfl) (fun _ _ _ h => h) ⟨Or.inl ⟨by rfl, by (intro w'; go_simp)⟩, fun _ => rfl⟩ ?_
                refine wpAnyIn_take (i := 9) (v := .pointer (some ⟨g5, f * 2, none⟩)) rfl rfl (by kernel_rfl) (by kernel_rfl) (by kernel_rfl) (fun _ _ _ h => h) ⟨Or.inl ⟨by rfl, by (intro w'; go_simp)⟩, fun _ => rfl⟩ ?_
                refine wpAnyIn_ready (rs := [10]) (by kernel_rfl) (by simp) ?_
                refine AllReadyIn.cons rfl (fun K hK => ?_) ?_
                · go_simp
                  refine hK _ _ ?_
                  clear hK K
                  refine wpAnyIn_ready (rs := [11]) (by kernel_rfl) (by simp) ?_
                  refine AllReadyIn.cons rfl (fun K hK => ?_) ?_
                  · go_simp
                    refine hK _ _ ?_
                    clear hK K
                    refine wpAnyIn_done (by kernel_rfl) ?_ _
                    exact hX
                  exact AllReadyIn.nil
                exact AllReadyIn.nil
              exact AllReadyIn.nil
            exact AllReadyIn.nil
          refine AllReadyIn.cons rfl (fun K hK => ?_) ?_
          · go_simp
            refine hK _ _ ?_
            clear hK K
            refine wpAnyIn_take (i := 8) (v := .slice (some ⟨w5.heap.size + 1, 2, none⟩) 0 0) rfl rfl (by kernel_rfl) (by kernel_rfl) (by kernel_rfl) (fun _ _ _ h => h) ⟨Or.inl ⟨by rfl, by (intro w'; go_simp)⟩, fun _ => rfl⟩ ?_
            refine wpAnyIn_ready (rs := [2]) (by kernel_rfl) (by simp) ?_
            refine AllReadyIn.cons rfl (fun K hK => ?_) ?_
            · go_simp
              refine hK _ _ ?_
              clear hK K
              refine wpAnyIn_take (i := 3) (v := .pointer (some ⟨w5.heap.size + 1, 2, none⟩)) rfl rfl (by kernel_rfl) (by kernel_rfl) (by kernel_rfl) (fun _ _ _ h => h) ⟨Or.inl ⟨by rfl, by (intro w'; go_simp)⟩, fun _ => rfl⟩ ?_
              refine wpAnyIn_ready (rs := [4]) (by kernel_rfl) (by simp) ?_
              refine AllReadyIn.cons rfl (fun K hK => ?_) ?_
              · go_simp
                refine hK _ _ ?_
                clear hK K
                refine wpAnyIn_take (i := 6) (v := .agg #[.int .i64 ((N : Int) + 1), .int .i64 u]) rfl rfl (by kernel_rfl) (by kernel_rfl) (by kernel_rfl) (fun _ _ _ h => h) ⟨Or.inl ⟨by rfl, by (intro w'; go_simp)⟩, fun _ => rfl⟩ ?_
                refine wpAnyIn_take (i := 9) (v := .pointer (some ⟨g5, f * 2, none⟩)) rfl rfl (by kernel_rfl) (by kernel_rfl) (by kernel_rfl) (fun _ _ _ h => h) ⟨Or.inl ⟨by rfl, by (intro w'; go_simp)⟩, fun _ => rfl⟩ ?_
                refine wpAnyIn_ready (rs := [10]) (by kernel_rfl) (by simp) ?_
                refine AllReadyIn.cons rfl (fun K hK => ?_) ?_
                · go_simp
                  refine hK _ _ ?_
                  clear hK K
                  refine wpAnyIn_ready (rs := [11]) (by kernel_rfl) (by simp) ?_
                  refine AllReadyIn.cons rfl (fun K hK => ?_) ?_
                  · go_simp
                    refine hK _ _ ?_
                    clear hK K
                    refine wpAnyIn_done (by kernel_rfl) ?_ _
                    exact hX
                  exact AllReadyIn.nil
                exact AllReadyIn.nil
              exact AllReadyIn.nil
            exact AllReadyIn.nil
          exact AllReadyIn.nil
        refine AllReadyIn.cons rfl (fun K hK => ?_) ?_
        · go_simp
          refine hK _ _ ?_
          clear hK K
          refine wpAnyIn_take (i := 3) (v := .pointer (some ⟨w5.heap.size + 1, 2, none⟩)) rfl rfl (by kernel_rfl) (by kernel_rfl) (by kernel_rfl) (fun _ _ _ h => h) ⟨Or.inl ⟨by rfl, by (intro w'; go_simp)⟩, fun _ => rfl⟩ ?_
          refine wpAnyIn_ready (rs := [0, 4, 7]) (by kernel_rfl) (by simp) ?_
          refine AllReadyIn.cons rfl (fun K hK => ?_) ?_
          · go_simp
            refine hK _ _ ?_
            clear hK K
            refine wpAnyIn_ready (rs := [4, 7]) (by kernel_rfl) (by simp) ?_
            refine AllReadyIn.cons rfl (fun K hK => ?_) ?_
            · go_simp
              refine hK _ _ ?_
              clear hK K
              refine wpAnyIn_take (i := 6) (v := .agg #[.int .i64 ((N : Int) + 1), .int .i64 u]) rfl rfl (by kernel_rfl) (by kernel_rfl) (by kernel_rfl) (fun _ _ _ h => h) ⟨Or.inl ⟨by rfl, by (intro w'; go_simp)⟩, fun _ => rfl⟩ ?_
              refine wpAnyIn_take (i := 9) (v := .pointer (some ⟨g5, f * 2, none⟩)) rfl rfl (by kernel_rfl) (by kernel_rfl) (by kernel_rfl) (fun _ _ _ h => h) ⟨Or.inl ⟨by rfl, by (intro w'; go_simp)⟩, fun _ => rfl⟩ ?_
              refine wpAnyIn_ready (rs := [7, 10]) (by kernel_rfl) (by simp) ?_
              refine AllReadyIn.cons rfl (fun K hK => ?_) ?_
              · go_simp
                refine hK _ _ ?_
                clear hK K
                refine wpAnyIn_take (i := 8) (v := .slice (some ⟨w5.heap.size + 1, 2, none⟩) 0 0) rfl rfl (by kernel_rfl) (by kernel_rfl) (by kernel_rfl) (fun _ _ _ h => h) ⟨Or.inl ⟨by rfl, by (intro w'; go_simp)⟩, fun _ => rfl⟩ ?_
                refine wpAnyIn_ready (rs := [10]) (by kernel_rfl) (by simp) ?_
                refine AllReadyIn.cons rfl (fun K hK => ?_) ?_
                · go_simp
                  refine hK _ _ ?_
                  clear hK K
                  refine wpAnyIn_ready (rs := [11]) (by kernel_rfl) (by simp) ?_
                  refine AllReadyIn.cons rfl (fun K hK => ?_) ?_
                  · go_simp
                    refine hK _ _ ?_
                    clear hK K
                    refine wpAnyIn_done (by kernel_rfl) ?_ _
                    exact hX
                  exact AllReadyIn.nil
                exact AllReadyIn.nil
              refine AllReadyIn.cons rfl (fun K hK => ?_) ?_
              · go_simp
                refine hK _ _ ?_
                clear hK K
                refine wpAnyIn_ready (rs := [7]) (by kernel_rfl) (by simp) ?_
                refine AllReadyIn.cons rfl (fun K hK => ?_) ?_
                · go_simp
                  refine hK _ _ ?_
                  clear hK K
                  refine wpAnyIn_take (i := 8) (v := .slice (some ⟨w5.heap.size + 1, 2, none⟩) 0 0) rfl rfl (by kernel_rfl) (by kernel_rfl) (by kernel_rfl) (fun _ _ _ h => h) ⟨Or.inl ⟨by rfl, by (intro w'; go_simp)⟩, fun _ => rfl⟩ ?_
                  refine wpAnyIn_ready (rs := [11]) (by kernel_rfl) (by simp) ?_
                  refine AllReadyIn.cons rfl (fun K hK => ?_) ?_
                  · go_simp
                    refine hK _ _ ?_
                    clear hK K
                    refine wpAnyIn_done (by kernel_rfl) ?_ _
                    exact hX
                  exact AllReadyIn.nil
                exact AllReadyIn.nil
              exact AllReadyIn.nil
            refine AllReadyIn.cons rfl (fun K hK => ?_) ?_
            · go_simp
              refine hK _ _ ?_
              clear hK K
              refine wpAnyIn_take (i := 8) (v := .slice (some ⟨w5.heap.size + 1, 2, none⟩) 0 0) rfl rfl (by kernel_rfl) (by kernel_rfl) (by kernel_rfl) (fun _ _ _ h => h) ⟨Or.inl ⟨by rfl, by (intro w'; go_simp)⟩, fun _ => rfl⟩ ?_
              refine wpAnyIn_ready (rs := [4]) (by kernel_rfl) (by simp) ?_
              refine AllReadyIn.cons rfl (fun K hK => ?_) ?_
              · go_simp
                refine hK _ _ ?_
                clear hK K
                refine wpAnyIn_take (i := 6) (v := .agg #[.int .i64 ((N : Int) + 1), .int .i64 u]) rfl rfl (by kernel_rfl) (by kernel_rfl) (by kernel_rfl) (fun _ _ _ h => h) ⟨Or.inl ⟨by rfl, by (intro w'; go_simp)⟩, fun _ => rfl⟩ ?_
                refine wpAnyIn_take (i := 9) (v := .pointer (some ⟨g5, f * 2, none⟩)) rfl rfl (by kernel_rfl) (by kernel_rfl) (by kernel_rfl) (fun _ _ _ h => h) ⟨Or.inl ⟨by rfl, by (intro w'; go_simp)⟩, fun _ => rfl⟩ ?_
                refine wpAnyIn_ready (rs := [10]) (by kernel_rfl) (by simp) ?_
                refine AllReadyIn.cons rfl (fun K hK => ?_) ?_
                · go_simp
                  refine hK _ _ ?_
                  clear hK K
                  refine wpAnyIn_ready (rs := [11]) (by kernel_rfl) (by simp) ?_
                  refine AllReadyIn.cons rfl (fun K hK => ?_) ?_
                  · go_simp
                    refine hK _ _ ?_
                    clear hK K
                    refine wpAnyIn_done (by kernel_rfl) ?_ _
                    exact hX
                  exact AllReadyIn.nil
                exact AllReadyIn.nil
              exact AllReadyIn.nil
            exact AllReadyIn.nil
          refine AllReadyIn.cons rfl (fun K hK => ?_) ?_
          · go_simp
            refine hK _ _ ?_
            clear hK K
            refine wpAnyIn_take (i := 6) (v := .agg #[.int .i64 ((N : Int) + 1), .int .i64 u]) rfl rfl (by kernel_rfl) (by kernel_rfl) (by kernel_rfl) (fun _ _ _ h => h) ⟨Or.inl ⟨by rfl, by (intro w'; go_simp)⟩, fun _ => rfl⟩ ?_
            refine wpAnyIn_ready (rs := [0, 7]) (by kernel_rfl) (by simp) ?_
            refine AllReadyIn.cons rfl (fun K hK => ?_) ?_
            · go_simp
              refine hK _ _ ?_
              clear hK K
              refine wpAnyIn_take (i := 9) (v := .pointer (some ⟨g5, f * 2, none⟩)) rfl rfl (by kernel_rfl) (by kernel_rfl) (by kernel_rfl) (fun _ _ _ h => h) ⟨Or.inl ⟨by rfl, by (intro w'; go_simp)⟩, fun _ => rfl⟩ ?_
              refine wpAnyIn_ready (rs := [7, 10]) (by kernel_rfl) (by simp) ?_
              refine AllReadyIn.cons rfl (fun K hK => ?_) ?_
              · go_simp
                refine hK _ _ ?_
                clear hK K
                refine wpAnyIn_take (i := 8) (v := .slice (some ⟨w5.heap.size + 1, 2, none⟩) 0 0) rfl rfl (by kernel_rfl) (by kernel_rfl) (by kernel_rfl) (fun _ _ _ h => h) ⟨Or.inl ⟨by rfl, by (intro w'; go_simp)⟩, fun _ => rfl⟩ ?_
                refine wpAnyIn_ready (rs := [10]) (by kernel_rfl) (by simp) ?_
                refine AllReadyIn.cons rfl (fun K hK => ?_) ?_
                · go_simp
                  refine hK _ _ ?_
                  clear hK K
                  refine wpAnyIn_ready (rs := [11]) (by kernel_rfl) (by simp) ?_
                  refine AllReadyIn.cons rfl (fun K hK => ?_) ?_
                  · go_simp
                    refine hK _ _ ?_
                    clear hK K
                    refine wpAnyIn_done (by kernel_rfl) ?_ _
                    exact hX
                  exact AllReadyIn.nil
                exact AllReadyIn.nil
              refine AllReadyIn.cons rfl (fun K hK => ?_) ?_
              · go_simp
                refine hK _ _ ?_
                clear hK K
                refine wpAnyIn_ready (rs := [7]) (by kernel_rfl) (by simp) ?_
                refine AllReadyIn.cons rfl (fun K hK => ?_) ?_
                · go_simp
                  refine hK _ _ ?_
                  clear hK K
                  refine wpAnyIn_take (i := 8) (v := .slice (some ⟨w5.heap.size + 1, 2, none⟩) 0 0) rfl rfl (by kernel_rfl) (by kernel_rfl) (by kernel_rfl) (fun _ _ _ h => h) ⟨Or.inl ⟨by rfl, by (intro w'; go_simp)⟩, fun _ => rfl⟩ ?_
                  refine wpAnyIn_ready (rs := [11]) (by kernel_rfl) (by simp) ?_
                  refine AllReadyIn.cons rfl (fun K hK => ?_) ?_
                  · go_simp
                    refine hK _ _ ?_
                    clear hK K
                    refine wpAnyIn_done (by kernel_rfl) ?_ _
                    exact hX
                  exact AllReadyIn.nil
                exact AllReadyIn.nil
              exact AllReadyIn.nil
            refine AllReadyIn.cons rfl (fun K hK => ?_) ?_
            · go_simp
              refine hK _ _ ?_
              clear hK K
              refine wpAnyIn_take (i := 8) (v := .slice (some ⟨w5.heap.size + 1, 2, none⟩) 0 0) rfl rfl (by kernel_rfl) (by kernel_rfl) (by kernel_rfl) (fun _ _ _ h => h) ⟨Or.inl ⟨by rfl, by (intro w'; go_simp)⟩, fun _ => rfl⟩ ?_
              refine wpAnyIn_ready (rs := [0]) (by kernel_rfl) (by simp) ?_
              refine AllReadyIn.cons rfl (fun K hK => ?_) ?_
              · go_simp
                refine hK _ _ ?_
                clear hK K
                refine wpAnyIn_take (i := 9) (v := .pointer (some ⟨g5, f * 2, none⟩)) rfl rfl (by kernel_rfl) (by kernel_rfl) (by kernel_rfl) (fun _ _ _ h => h) ⟨Or.inl ⟨by rfl, by (intro w'; go_simp)⟩, fun _ => rfl⟩ ?_
                refine wpAnyIn_ready (rs := [10]) (by kernel_rfl) (by simp) ?_
                refine AllReadyIn.cons rfl (fun K hK => ?_) ?_
                · go_simp
                  refine hK _ _ ?_
                  clear hK K
                  refine wpAnyIn_ready (rs := [11]) (by kernel_rfl) (by simp) ?_
                  refine AllReadyIn.cons rfl (fun K hK => ?_) ?_
                  · go_simp
                    refine hK _ _ ?_
                    clear hK K
                    refine wpAnyIn_done (by kernel_rfl) ?_ _
                    exact hX
                  exact AllReadyIn.nil
                exact AllReadyIn.nil
              exact AllReadyIn.nil
            exact AllReadyIn.nil
          refine AllReadyIn.cons rfl (fun K hK => ?_) ?_
          · go_simp
            refine hK _ _ ?_
            clear hK K
            refine wpAnyIn_take (i := 8) (v := .slice (some ⟨w5.heap.size + 1, 2, none⟩) 0 0) rfl rfl (by kernel_rfl) (by kernel_rfl) (by kernel_rfl) (fun _ _ _ h => h) ⟨Or.inl ⟨by rfl, by (intro w'; go_simp)⟩, fun _ => rfl⟩ ?_
            refine wpAnyIn_ready (rs := [0, 4]) (by kernel_rfl) (by simp) ?_
            refine AllReadyIn.cons rfl (fun K hK => ?_) ?_
            · go_simp
              refine hK _ _ ?_
              clear hK K
              refine wpAnyIn_ready (rs := [4]) (by kernel_rfl) (by simp) ?_
              refine AllReadyIn.cons rfl (fun K hK => ?_) ?_
              · go_simp
                refine hK _ _ ?_
                clear hK K
                refine wpAnyIn_take (i := 6) (v := .agg #[.int .i64 ((N : Int) + 1), .int .i64 u]) rfl rfl (by kernel_rfl) (by kernel_rfl) (by kernel_rfl) (fun _ _ _ h => h) ⟨Or.inl ⟨by rfl, by (intro w'; go_simp)⟩, fun _ => rfl⟩ ?_
                refine wpAnyIn_take (i := 9) (v := .pointer (some ⟨g5, f * 2, none⟩)) rfl rfl (by kernel_rfl) (by kernel_rfl) (by kernel_rfl) (fun _ _ _ h => h) ⟨Or.inl ⟨by rfl, by (intro w'; go_simp)⟩, fun _ => rfl⟩ ?_
                refine wpAnyIn_ready (rs := [10]) (by kernel_rfl) (by simp) ?_
                refine AllReadyIn.cons rfl (fun K hK => ?_) ?_
                · go_simp
                  refine hK _ _ ?_
                  clear hK K
                  refine wpAnyIn_ready (rs := [11]) (by kernel_rfl) (by simp) ?_
                  refine AllReadyIn.cons rfl (fun K hK => ?_) ?_
                  · go_simp
                    refine hK _ _ ?_
                    clear hK K
                    refine wpAnyIn_done (by kernel_rfl) ?_ _
                    exact hX
                  exact AllReadyIn.nil
                exact AllReadyIn.nil
              exact AllReadyIn.nil
            refine AllReadyIn.cons rfl (fun K hK => ?_) ?_
            · go_simp
              refine hK _ _ ?_
              clear hK K
              refine wpAnyIn_take (i := 6) (v := .agg #[.int .i64 ((N : Int) + 1), .int .i64 u]) rfl rfl (by kernel_rfl) (by kernel_rfl) (by kernel_rfl) (fun _ _ _ h => h) ⟨Or.inl ⟨by rfl, by (intro w'; go_simp)⟩, fun _ => rfl⟩ ?_
              refine wpAnyIn_ready (rs := [0]) (by kernel_rfl) (by simp) ?_
              refine AllReadyIn.cons rfl (fun K hK => ?_) ?_
              · go_simp
                refine hK _ _ ?_
                clear hK K
                refine wpAnyIn_take (i := 9) (v := .pointer (some ⟨g5, f * 2, none⟩)) rfl rfl (by kernel_rfl) (by kernel_rfl) (by kernel_rfl) (fun _ _ _ h => h) ⟨Or.inl ⟨by rfl, by (intro w'; go_simp)⟩, fun _ => rfl⟩ ?_
                refine wpAnyIn_ready (rs := [10]) (by kernel_rfl) (by simp) ?_
                refine AllReadyIn.cons rfl (fun K hK => ?_) ?_
                · go_simp
                  refine hK _ _ ?_
                  clear hK K
                  refine wpAnyIn_ready (rs := [11]) (by kernel_rfl) (by simp) ?_
                  refine AllReadyIn.cons rfl (fun K hK => ?_) ?_
                  · go_simp
                    refine hK _ _ ?_
                    clear hK K
                    refine wpAnyIn_done (by kernel_rfl) ?_ _
                    exact hX
                  exact AllReadyIn.nil
                exact AllReadyIn.nil
              exact AllReadyIn.nil
            exact AllReadyIn.nil
          exact AllReadyIn.nil
        refine AllReadyIn.cons rfl (fun K hK => ?_) ?_
        · go_simp
          refine hK _ _ ?_
          clear hK K
          refine wpAnyIn_take (i := 8) (v := .slice (some ⟨w5.heap.size + 1, 2, none⟩) 0 0) rfl rfl (by kernel_rfl) (by kernel_rfl) (by kernel_rfl) (fun _ _ _ h => h) ⟨Or.inl ⟨by rfl, by (intro w'; go_simp)⟩, fun _ => rfl⟩ ?_
          refine wpAnyIn_ready (rs := [0, 2]) (by kernel_rfl) (by simp) ?_
          refine AllReadyIn.cons rfl (fun K hK => ?_) ?_
          · go_simp
            refine hK _ _ ?_
            clear hK K
            refine wpAnyIn_ready (rs := [2]) (by kernel_rfl) (by simp) ?_
            refine AllReadyIn.cons rfl (fun K hK => ?_) ?_
            · go_simp
              refine hK _ _ ?_
              clear hK K
              refine wpAnyIn_take (i := 3) (v := .pointer (some ⟨w5.heap.size + 1, 2, none⟩)) rfl rfl (by kernel_rfl) (by kernel_rfl) (by kernel_rfl) (fun _ _ _ h => h) ⟨Or.inl ⟨by rfl, by (intro w'; go_simp)⟩, fun _ => rfl⟩ ?_
              refine wpAnyIn_ready (rs := [4]) (by kernel_rfl) (by simp) ?_
              refine AllReadyIn.cons rfl (fun K hK => ?_) ?_
              · go_simp
                refine hK _ _ ?_
                clear hK K
                refine wpAnyIn_take (i := 6) (v := .agg #[.int .i64 ((N : Int) + 1), .int .i64 u]) rfl rfl (by kernel_rfl) (by kernel_rfl) (by kernel_rfl) (fun _ _ _ h => h) ⟨Or.inl ⟨by rfl, by (intro w'; go_simp)⟩, fun _ => rfl⟩ ?_
                refine wpAnyIn_take (i := 9) (v := .pointer (some ⟨g5, f * 2, none⟩)) rfl rfl (by kernel_rfl) (by kernel_rfl) (by kernel_rfl) (fun _ _ _ h => h) ⟨Or.inl ⟨by rfl, by (intro w'; go_simp)⟩, fun _ => rfl⟩ ?_
                refine wpAnyIn_ready (rs := [10]) (by kernel_rfl) (by simp) ?_
                refine AllReadyIn.cons rfl (fun K hK => ?_) ?_
                · go_simp
                  refine hK _ _ ?_
                  clear hK K
                  refine wpAnyIn_ready (rs := [11]) (by kernel_rfl) (by simp) ?_
                  refine AllReadyIn.cons rfl (fun K hK => ?_) ?_
                  · go_simp
                    refine hK _ _ ?_
                    clear hK K
                    refine wpAnyIn_done (by kernel_rfl) ?_ _
                    exact hX
                  exact AllReadyIn.nil
                exact AllReadyIn.nil
              exact AllReadyIn.nil
            exact AllReadyIn.nil
          refine AllReadyIn.cons rfl (fun K hK => ?_) ?_
          · go_simp
            refine hK _ _ ?_
            clear hK K
            refine wpAnyIn_take (i := 3) (v := .pointer (some ⟨w5.heap.size + 1, 2, none⟩)) rfl rfl (by kernel_rfl) (by kernel_rfl) (by kernel_rfl) (fun _ _ _ h => h) ⟨Or.inl ⟨by rfl, by (intro w'; go_simp)⟩, fun _ => rfl⟩ ?_
            refine wpAnyIn_ready (rs := [0, 4]) (by kernel_rfl) (by simp) ?_
            refine AllReadyIn.cons rfl (fun K hK => ?_) ?_
            · go_simp
              refine hK _ _ ?_
              clear hK K
              refine wpAnyIn_ready (rs := [4]) (by kernel_rfl) (by simp) ?_
              refine AllReadyIn.cons rfl (fun K hK => ?_) ?_
              · go_simp
                refine hK _ _ ?_
                clear hK K
                refine wpAnyIn_take (i := 6) (v := .agg #[.int .i64 ((N : Int) + 1), .int .i64 u]) rfl rfl (by kernel_rfl) (by kernel_rfl) (by kernel_rfl) (fun _ _ _ h => h) ⟨Or.inl ⟨by rfl, by (intro w'; go_simp)⟩, fun _ => rfl⟩ ?_
                refine wpAnyIn_take (i := 9) (v := .pointer (some ⟨g5, f * 2, none⟩)) rfl rfl (by kernel_rfl) (by kernel_rfl) (by kernel_rfl) (fun _ _ _ h => h) ⟨Or.inl ⟨by rfl, by (intro w'; go_simp)⟩, fun _ => rfl⟩ ?_
                refine wpAnyIn_ready (rs := [10]) (by kernel_rfl) (by simp) ?_
                refine AllReadyIn.cons rfl (fun K hK => ?_) ?_
                · go_simp
                  refine hK _ _ ?_
                  clear hK K
                  refine wpAnyIn_ready (rs := [11]) (by kernel_rfl) (by simp) ?_
                  refine AllReadyIn.cons rfl (fun K hK => ?_) ?_
                  · go_simp
                    refine hK _ _ ?_
                    clear hK K
                    refine wpAnyIn_done (by kernel_rfl) ?_ _
                    exact hX
                  exact AllReadyIn.nil
                exact AllReadyIn.nil
              exact AllReadyIn.nil
            refine AllReadyIn.cons rfl (fun K hK => ?_) ?_
            · go_simp
              refine hK _ _ ?_
              clear hK K
              refine wpAnyIn_take (i := 6) (v := .agg #[.int .i64 ((N : Int) + 1), .int .i64 u]) rfl rfl (by kernel_rfl) (by kernel_rfl) (by kernel_rfl) (fun _ _ _ h => h) ⟨Or.inl ⟨by rfl, by (intro w'; go_simp)⟩, fun _ => rfl⟩ ?_
              refine wpAnyIn_ready (rs := [0]) (by kernel_rfl) (by simp) ?_
              refine AllReadyIn.cons rfl (fun K hK => ?_) ?_
              · go_simp
                refine hK _ _ ?_
                clear hK K
                refine wpAnyIn_take (i := 9) (v := .pointer (some ⟨g5, f * 2, none⟩)) rfl rfl (by kernel_rfl) (by kernel_rfl) (by kernel_rfl) (fun _ _ _ h => h) ⟨Or.inl ⟨by rfl, by (intro w'; go_simp)⟩, fun _ => rfl⟩ ?_
                refine wpAnyIn_ready (rs := [10]) (by kernel_rfl) (by simp) ?_
                refine AllReadyIn.cons rfl (fun K hK => ?_) ?_
                · go_simp
                  refine hK _ _ ?_
                  clear hK K
                  refine wpAnyIn_ready (rs := [11]) (by kernel_rfl) (by simp) ?_
                  refine AllReadyIn.cons rfl (fun K hK => ?_) ?_
                  · go_simp
                    refine hK _ _ ?_
                    clear hK K
                    refine wpAnyIn_done (by kernel_rfl) ?_ _
                    exact hX
                  exact AllReadyIn.nil
                exact AllReadyIn.nil
              exact AllReadyIn.nil
            exact AllReadyIn.nil
          exact AllReadyIn.nil
        exact AllReadyIn.nil
      · gi_wp2
        have ho9 : OwnE W.drew g5 cap5 (ovP N v (es ++ newT N v) (pre.map Subtype.val)) := HAll.out.1.keep rfl
        have hb9 : Boxed W.drew (w5.heap.size + 1 + 1) 34 _ := (show W.drew.heap[w5.heap.size + 1 + 1]? = W.heap[w5.heap.size + 1 + 1]? from rfl).trans HAll.out.2.2.2
        have hB9 : Below w2.heap.size w2 W.drew := HBW.out.drew
        have hs := ho9.set (k := f) (by rw [ovP_len, List.length_append]; omega) ((N : Int) + 1) u
        have hs2 := hs.far (a := ⟨w5.heap.size + 1 + 1, 0, none⟩) (by show g5 ≠ w5.heap.size + 1 + 1; omega) (.slice (some ⟨w5.heap.size + 1, 2, none⟩) 0 0)
        have hs3 := Boxed.set (.slice (some ⟨w5.heap.size + 1, 2, none⟩) 0 0) (show Boxed ((W.drew.setCell ⟨g5, f * 2, none⟩ (.int .i64 ((N : Int) + 1))).setCell ⟨g5, f * 2 + 1, none⟩ (.int .i64 u)) (w5.heap.size + 1 + 1) 34 _ from (heap_setCell_other (W.drew.setCell ⟨g5, f * 2, none⟩ (.int .i64 ((N : Int) + 1))) ⟨g5, f * 2 + 1, none⟩ (w5.heap.size + 1 + 1) (.int .i64 u) (by show w5.heap.size + 1 + 1 ≠ g5; omega)).trans ((heap_setCell_other W.drew ⟨g5, f * 2, none⟩ (w5.heap.size + 1 + 1) (.int .i64 ((N : Int) + 1)) (by show w5.heap.size + 1 + 1 ≠ g5; omega)).trans hb9))
        have hk9 := fun b hb hb8 => (heap_setCell_other ((W.drew.setCell ⟨g5, f * 2, none⟩ (.int .i64 ((N : Int) + 1))).setCell ⟨g5, f * 2 + 1, none⟩ (.int .i64 u)) ⟨w5.heap.size + 1 + 1, 0, none⟩ b (.slice (some ⟨w5.heap.size + 1, 2, none⟩) 0 0) hb8).trans ((heap_setCell_other (W.drew.setCell ⟨g5, f * 2, none⟩ (.int .i64 ((N : Int) + 1))) ⟨g5, f * 2 + 1, none⟩ b (.int .i64 u) hb).trans ((heap_setCell_other W.drew ⟨g5, f * 2, none⟩ b (.int .i64 ((N : Int) + 1)) hb).trans (show W.drew.heap[b]? = W.heap[b]? from rfl)))
        refine ⟨KeepsFrom.trans (Y := W.drew) ⟨Nat.le_refl _, fun k o _ hk _ => hk⟩ (((KeepsOthers.setCell W.drew _ _).trans ((KeepsOthers.setCell _ _ _).trans (KeepsOthers.setCell _ _ _))).from _), ⟨(((Below.refl w2.heap.size W).drew.setCell (p := ⟨g5, f * 2, none⟩) hg5 _).setCell (p := ⟨g5, f * 2 + 1, none⟩) hg5 _).setCell (p := ⟨w5.heap.size + 1 + 1, 0, none⟩) (by show w2.heap.size ≤ w5.heap.size + 1 + 1; omega) _, ?_⟩, ovAt_next (cj := ((N : Int) + 1)) (v8 := .slice (some ⟨w5.heap.size + 1, 2, none⟩) 0 0) ⟨(f, u), hfl, HEnc.out.1, HEnc.out.2⟩ ⟨HAll.out.1, HAll.out.2.1, HAll.out.2.2.1, _, HAll.out.2.2.2, fun _ => rfl⟩ HJ.out (by unfold cornF; rw [if_neg (by omega)]; omega) hk9 hs2 hs3 (by omega) (by omega) (by omega) (by omega) (fun _ => (by omega)), ((hB9.setCell (p := ⟨g5, f * 2, none⟩) hg5 _).setCell (p := ⟨g5, f * 2 + 1, none⟩) hg5 _).setCell (p := ⟨w5.heap.size + 1 + 1, 0, none⟩) (by show w2.heap.size ≤ w5.heap.size + 1 + 1; omega) _⟩
        exact hk9 (w5.heap.size + 1 + 1 + 1 + 1) (by show w5.heap.size + 1 + 1 + 1 + 1 ≠ g5; omega) (by show w5.heap.size + 1 + 1 + 1 + 1 ≠ w5.heap.size + 1 + 1; omega)
  case done =>
    rintro D ys W hD hys ⟨⟨h1, h2, _, u8, _, _⟩, hB⟩ hK
    have hDl : D < W.heap.size := (Array.getElem?_eq_some_iff.1 hK).1
    have hys1 : (ys.map Subtype.val).map Prod.fst = onL es v := by rw [hys]; exact arF_onL es v
    have HSame := hid (ov_same G.out Hv.out hys1 (fun x hx => by
      obtain ⟨y, _, rfl⟩ := List.mem_map.1 hx
      exact y.2.2.2))
    have hll : (ovP N v (es ++ newT N v) (ys.map Subtype.val)).length = M := by rw [ovP_len, List.length_append, Hn.out, ← HM.out]; rfl
    have hc7 := h2.cell
    have hl7 := h2.lt
    have HO1 := hid h1
    have HBW := hid hB
    have HKW := hid (HK2.out.on hB)
    have hrw := h1.reads
    clear h1 h2 hB
    gi_wp2
    refine ⟨trivial, ?_⟩
    refine (callsIn_wide.2 (inOrder_any g5 0 M cap5 _ W (by rw [← HM.out]; omega) hll hrw)).mono ?_
    rw [HSame.out]
    rintro e w6 ⟨rfl, ho6, hb6⟩
    have HO6 := hid ho6
    have HK6 := hid (HKW.out.on hb6)
    have HB6 := hid hb6
    have hra := HK6.out.box.1
    have hrb := HK6.out.box.2
    have hfa6 := HK6.out.frozen 0
    have hfb6 := HK6.out.frozen 1
    have hz6 := HK6.out.lt
    have HD6 := hid ((hb6.block D hDl).trans hK)
    have hw6 := hb6.size
    clear ho6 hb6
    gi_wp2
    have hDne : D ≠ w.heap.size + 1 := by have := HB2.out.size; omega
    obtain ⟨W7, hW7⟩ : ∃ W7, W7 = (w6.setCell ⟨w.heap.size + 1, 0, none⟩ (.int .i64 ((N : Int) + 2))).setCell ⟨w.heap.size + 1, 1, none⟩ (.slice (some ⟨W.heap.size, 0, none⟩) M M) := ⟨_, rfl⟩
    have HG7 : GBox W7 (w.heap.size + 1) ((N : Int) + 2) (some ⟨W.heap.size, 0, none⟩) M M := by rw [hW7]; exact (HK6.out.set0 _).set1 _ _ _
    have hD7 : W7.heap[D]? = some (.deferred (some [])) := by rw [hW7]; exact (heap_setCell_other _ ⟨w.heap.size + 1, 1, none⟩ D _ hDne).trans ((heap_setCell_other _ ⟨w.heap.size + 1, 0, none⟩ D _ hDne).trans HD6.out)
    have HO7 : OwnE W7 W.heap.size M (sortE (ovM N v es)) := by rw [hW7]; exact (HO6.out.far (a := ⟨w.heap.size + 1, 0, none⟩) (by show W.heap.size ≠ w.heap.size + 1; omega) _).far (a := ⟨w.heap.size + 1, 1, none⟩) (by show W.heap.size ≠ w.heap.size + 1; omega) _
    have HB7 : Below w.heap.size w W7 := by rw [hW7]; exact ((bfrom (bfrom HB2.out HBW.out) HB6.out).setCell (p := ⟨w.heap.size + 1, 0, none⟩) (by show w.heap.size ≤ w.heap.size + 1; omega) _).setCell (p := ⟨w.heap.size + 1, 1, none⟩) (by show w.heap.size ≤ w.heap.size + 1; omega) _
    rw [← hW7]
    refine ⟨by simp, .inl ⟨_, _, rfl, run_takeDeferred hD7, ?_⟩⟩
    have HG8 : GBox (W7.putObj D (.deferred none)) (w.heap.size + 1) ((N : Int) + 2) (some ⟨W.heap.size, 0, none⟩) M M := HG7.keep (World.putObj_heap_other (fun e => hDne e.symm))
    have hra8 := HG8.box.1
    have hrb8 := HG8.box.2
    have hlen := congrArg List.length HSame.out
    rw [sortE_length, sortE_length, hll, ovM_len, Hn.out] at hlen
    refine ⟨.tuple #[.agg #[.int .i64 ((N : Int) + 2), .slice (some ⟨W.heap.size, 0, none⟩) M M], .int .i64 0], by simp [results, Try.results34, go_sem, hra8, hrb8], some ⟨W.heap.size, 0, none⟩, M, by rw [← HM.out], ?_, ?_⟩
    · rw [HM.out]
      exact FreshE.of_own (HO7.keep (World.putObj_heap_other (by omega))) (by rw [sortE_length, ovM_len, Hn.out, HM.out]) (by have := HB2.out.size; have := HBW.out.size; omega)
    · exact HB7.trans (belowK_b (w := w) (Nat.le_refl _) W7 D _ _ (by have := HB2.out.size; omega) hD7 rfl rfl)
  case stop =>
    rintro D c pre W _ _ h _
    exact h.elim

end Go.Proofs.Ytppkcpekknhbmaa
