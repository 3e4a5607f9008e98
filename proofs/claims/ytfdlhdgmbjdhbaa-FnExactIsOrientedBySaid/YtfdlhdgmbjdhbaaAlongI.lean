/- An edge gone along, in the program: along; withinSet's maker. -/
import Derived.Test.YtfdlhdgmbjdhbaaIterA
import Derived.Test.YtfdlhdgmbjdhbaaFar
import Derived.Deep.DeepMust
import Derived.Deep.AppendLies
import Derived.Test.YtfdlhdgmbjdhbaaSetI
import Derived.Test.YtfdlhdgmbjdhbaaCycA
import Derived.Laws.StructEq
import Derived.Deep.RegionHeld3
import Derived.Deep.RegionWith
import Derived.Outline
import Derived.Test.YtfdlhdgmbjdhbaaMoves
import Derived.BigRegion

/- Edges that are gone along, in the program: back, directedFrom. -/
namespace Go.Proofs.Ytfdlhdgmbjdhbaa
open Go.RowKit Go.Shelf

attribute [local go_sem] Oper.semAt_some

theorem infoDir : (Try.prog.info? 118).map (fun i => (i.zero, i.size, i.bytes)) = some (some (.agg #[.int .i64 0, .int .i64 0, .int .i64 0]), 3, 24) := by kernel_rfl

/-- A directed edge as a value. -/
abbrev dirV (e f t : Int) : Value := .agg #[.int .i64 e, .int .i64 f, .int .i64 t]

set_option maxHeartbeats 1000000 in
theorem iBack_any (e f t : Int) (w : World) :
    Calls Try.prog 126 #[dirV e f t] w fun r w' => r = .returned (dirV e t f) ∧ Below w.heap.size w w' := by
  go_enter Try.func126, Try.ntmps126
  go_wp2
  refine bodyPost_ret (v := dirV e t f) (by simp [results, Try.results126, go_sem]) rfl ⟨rfl, ?_⟩
  have := Below.refl w.heap.size w
  go_grown

/-- The edges at a vertex, gone along from there, lie in a block. -/
def ReadsD (w : World) (g : Nat) (v : Int) (L : List (Nat × Int)) : Prop :=
  ∀ i, i < L.length → w.cell? ⟨g, i * 3, none⟩ = some (.int .i64 ((L.getD i (0, 0)).1 : Int)) ∧ w.cell? ⟨g, i * 3 + 1, none⟩ = some (.int .i64 v) ∧ w.cell? ⟨g, i * 3 + 2, none⟩ = some (.int .i64 (L.getD i (0, 0)).2)
def dirVals (v : Int) (L : List (Nat × Int)) : List Value := L.flatMap fun x => [.int .i64 (x.1 : Int), .int .i64 v, .int .i64 x.2]
theorem dirVals_len (v : Int) (L : List (Nat × Int)) : (dirVals v L).length = L.length * 3 := by
  induction L with
  | nil => rfl
  | cons x L ih => simp only [dirVals, List.flatMap_cons, List.length_append, List.length_cons, List.length_nil] at *; omega
theorem dirVals_app (v : Int) (L : List (Nat × Int)) (x : Nat × Int) : dirVals v (L ++ [x]) = dirVals v L ++ [.int .i64 (x.1 : Int), .int .i64 v, .int .i64 x.2] := by simp [dirVals]
theorem dirVals_at (v : Int) : ∀ (L : List (Nat × Int)) (i : Nat), i < L.length → (dirVals v L)[i * 3]? = some (.int .i64 ((L.getD i (0, 0)).1 : Int)) ∧ (dirVals v L)[i * 3 + 1]? = some (.int .i64 v) ∧ (dirVals v L)[i * 3 + 2]? = some (.int .i64 (L.getD i (0, 0)).2)
  | [], _, h => by simp at h
  | x :: L, 0, _ => by simp [dirVals]
  | x :: L, i + 1, h => by
    have ih := dirVals_at v L i (by simpa using h)
    have h1 : (i + 1) * 3 = i * 3 + 1 + 1 + 1 := by omega
    have h2 : dirVals v (x :: L) = .int .i64 (x.1 : Int) :: .int .i64 v :: .int .i64 x.2 :: dirVals v L := rfl
    rw [h1, h2]
    simpa using ih
theorem ReadsD.of_row {w : World} {base n : Nat} {u : Value} {v : Int} {L : List (Nat × Int)} (h : w.ownsRow base 118 3 u n (dirVals v L)) (hl : L.length = n) (hn : 0 < n) : ∃ g cap, u = .slice (some ⟨g, 0, none⟩) n cap ∧ base ≤ g ∧ ReadsD w g v L := by
  rcases h.2 with ⟨_, h0⟩ | ⟨g, cap, cur, rfl, hb, hg, hn', hm, hs, ht⟩
  · omega
  · refine ⟨g, cap, rfl, hb, fun i hi => ?_⟩
    have key : ∀ j, j < n * 3 → w.cell? ⟨g, j, none⟩ = (dirVals v L)[j]? := fun j hj => by
      rw [cell_of_row w g _ cur _ _ hg, ← ht, List.getElem?_take, if_pos hj, Array.getElem?_toList]
    rw [key _ (by omega), key _ (by omega), key _ (by omega)]
    exact dirVals_at v L i hi

theorem row_lessD {w : World} {B B' : Nat} {e : TypeId} {sz n : Nat} {v : Value} {xs : List Value} (h : w.ownsRow B e sz v n xs) (hB : B' ≤ B) : w.ownsRow B' e sz v n xs := by
  refine ⟨h.1, ?_⟩
  rcases h.2 with hn | ⟨g, c, cur, hv, hb, r⟩
  · exact .inl hn
  · exact .inr ⟨g, c, cur, hv, Nat.le_trans hB hb, r⟩

set_option maxRecDepth 100000 in
set_option maxHeartbeats 8000000 in
theorem iDirFrom_any (s v : Int) (b off n c : Nat) (es : List (Int × Int)) (w : World) (hm : n ≤ 30) (hn : es.length = n) (hr : ReadsE w b off es) (hb1 : 1 ≤ n) (hL : (arF es v).length = 3) :
    Calls Try.prog 125 #[.agg #[.int .i64 s, .slice (some ⟨b, off, none⟩) n c], .int .i64 v] w fun e w' => ∃ g cap, e = .returned (.slice (some ⟨g, 0, none⟩) 3 cap) ∧ w.heap.size ≤ g ∧ ReadsD w' g v (arF es v) ∧ Below w.heap.size w w' := by
  have Hn := hid hn
  have Hr := hid hr
  have HL := hid hL
  obtain ⟨i0, hi, hz0, hz1, hz2⟩ := info_parts infoDir
  have Hi := hid hi
  have hbb0 : b < w.heap.size := reads_lt hr (by omega)
  clear hn hr hi hL
  refine (callsIn_wide (n := 6)).1 ?_
  refine callsIn_of_wp_marks Try.func125 rfl trivial ?_ rfl
  simp only [Try.ntmps125, List.size_toArray, List.length_cons, List.length_nil, Nat.reduceAdd, Nat.reduceSub, Array.replicate_succ, Array.replicate_zero, List.push_toArray, List.append_toArray, List.nil_append, List.cons_append]
  gi_wp2_with (refine ⟨trivial, ?_⟩; gi_at_call 84; refine (callsIn_wide.2 (iAround_any _ _ _ _ _ _)).mono ?_; rintro e w' ⟨rfl, rfl⟩)
  obtain ⟨w2, hw2⟩ : ∃ w2, w2 = (w.alloc (.cells #[.int .i64 s, .slice (some ⟨b, off, none⟩) n c] 28)).alloc (.cells #[.int .i64 v] 2) := ⟨_, rfl⟩
  have HB2 := hid (show Below w.heap.size w w2 by rw [hw2]; exact bfrom (on_alloc _ _) (on_alloc _ _))
  have HS2 := hid (show w2.heap.size = w.heap.size + 1 + 1 by rw [hw2]; simp)
  have HV2 := hid (show w2.cell? ⟨w.heap.size + 1, 0, none⟩ = some (.int .i64 v) by
    have h := (Boxed.new (w.alloc (.cells #[.int .i64 s, .slice (some ⟨b, off, none⟩) n c] 28)) 2 (.int .i64 v)).cell
    rw [World.size_alloc] at h
    rw [hw2]; exact h)
  rw [← hw2, ← HS2.out]
  clear hw2
  have hz2s : w.heap.size ≤ w2.heap.size := HB2.out.size
  have hbG : (((w2.alloc (.cells #[.slice none 0 0] 144)).alloc (.cells #[.int .i64 s, .slice (some ⟨b, off, none⟩) n c] 28)).alloc (.cells #[.int .i64 v] 2)).cell? ⟨w2.heap.size + 1, 1, none⟩ = some (.slice (some ⟨b, off, none⟩) n c) := by
    have h := ((Box.new (w2.alloc (.cells #[.slice none 0 0] 144)) s (some ⟨b, off, none⟩) n c 28).on (on_alloc _ (.cells #[.int .i64 v] 2))).2
    simpa only [World.size_alloc] using h
  have hbV : (((w2.alloc (.cells #[.slice none 0 0] 144)).alloc (.cells #[.int .i64 s, .slice (some ⟨b, off, none⟩) n c] 28)).alloc (.cells #[.int .i64 v] 2)).cell? ⟨w2.heap.size + 1 + 1, 0, none⟩ = some (.int .i64 v) := by
    have h := (Boxed.new ((w2.alloc (.cells #[.slice none 0 0] 144)).alloc (.cells #[.int .i64 s, .slice (some ⟨b, off, none⟩) n c] 28)) 2 (.int .i64 v)).cell
    simpa only [World.size_alloc] using h
  have hB0 : Below w2.heap.size w2 (((w2.alloc (.cells #[.slice none 0 0] 144)).alloc (.cells #[.int .i64 s, .slice (some ⟨b, off, none⟩) n c] 28)).alloc (.cells #[.int .i64 v] 2)) := bfrom (bfrom (on_alloc _ _) (on_alloc _ _)) (on_alloc _ _)
  have bO := ((Boxed.new w2 144 (.slice none 0 0)).alloc (.cells #[.int .i64 s, .slice (some ⟨b, off, none⟩) n c] 28)).alloc (.cells #[.int .i64 v] 2)
  have hv2 : w.heap.size + 1 < w2.heap.size := by have := HS2.out; omega
  have hal : ∀ k, (arU es v k).length ≤ k := arU_len es v
  refine wpIn_rangeFunc_ownG (n := 6) rfl (by omega) (gf := 106) (lb := #[.pointer (some ⟨w2.heap.size + 1, 0, none⟩), .pointer (some ⟨w2.heap.size + 1 + 1, 0, none⟩)]) rfl trivial (enters_of Try.func106 (by kernel_rfl) rfl)
    (around_stops 5 (by omega) (w2.heap.size + 1) (w2.heap.size + 1 + 1) w2.heap.size b off n c v es Hn.out hm (by omega) _ (by simp; omega) hbG hbV (by simp) (by simp) ((Hr.out.on HB2.out).on hB0)) kpB_t (kpB_b (by simp; omega) (by simp)) (Below.refl _ _) (fun _ => rfl)
    (fun (pre : List (Nat × Int)) W => ((∃ u, Boxed W w2.heap.size 144 u ∧ W.ownsRow (w2.heap.size + 1 + 1 + 1) 118 3 u pre.length (dirVals v pre) ∧ True) ∧ Below w2.heap.size w2 W) ∧ w2.heap.size + 1 + 1 + 1 ≤ W.heap.size)
    (fun _ _ _ => False)
    (OwnFrom.and (OwnFrom.and (Own.from (holdsRow_own (w2.heap.size + 1 + 1 + 1) w2.heap.size 144 118 3 (fun (pre : List (Nat × Int)) => pre.length) (fun (pre : List (Nat × Int)) => dirVals v pre) (fun _ _ => True)) _) (ownFrom_below (Nat.le_refl _) (by simp; omega))) (fun _ _ _ _ hs hg _ => Nat.le_trans hs hg.size))
    (fun _ _ _ _ _ hs _ _ => hs)
    ⟨⟨⟨_, bO, World.ownsRow_nil _ _ _ _, trivial⟩, hB0⟩, by simp⟩
    (fun x => { tmps := #[.agg #[.int .i64 s, .slice (some ⟨b, off, none⟩) n c], .int .i64 v, .pointer (some ⟨w.heap.size, 0, none⟩), .pointer (some ⟨w.heap.size + 1, 0, none⟩), .slice none 0 0, .pointer (some ⟨w2.heap.size, 0, none⟩), .int .i64 (x.1 : Int), .int .i64 x.2, .agg #[.int .i64 s, .slice (some ⟨b, off, none⟩) n c], .int .i64 v, .func (.func 106) #[] #[.pointer (some ⟨w2.heap.size + 1, 0, none⟩), .pointer (some ⟨w2.heap.size + 1 + 1, 0, none⟩)], .int .i64 (x.1 : Int), .int .i64 x.2, undef, undef, undef, undef, undef, undef, undef, undef], defers := [] }) ?assign ?body ?done ?stop
  case assign =>
    intro l x W K hK
    gi_wp2
    exact hK
  case body =>
    rintro l pre x W ⟨⟨⟨u, hu, hrow, _⟩, hB⟩, hsz⟩ hlt
    have hc := hu.cell
    have hcv := (hB.cell (p := ⟨w.heap.size + 1, 0, none⟩) hv2).trans HV2.out
    have hvW : w.heap.size + 1 < W.heap.size := by omega
    have hpl : pre.length < 31 := by have := hal es.length; have := Hn.out; unfold arF at hlt; omega
    gi_wp2_with (gi_at_builtin; go_must (refine wpListIn_append_own _ rfl (.tmp 13) (.tmp 18) 144 rfl (w2.heap.size + 1 + 1 + 1) 118 i0 (.agg #[.int .i64 0, .int .i64 0, .int .i64 0]) 3 24 Try.underlying144 Hi.out hz0 hz1 hz2 rfl (by decide) _ _ _ rfl (hrow.alloc _) ⟨W.heap.size, 0, none⟩ 1 1 [.int .i64 (x.1 : Int), .int .i64 v, .int .i64 x.2] rfl rfl (World.news_of_block (cs := #[.int .i64 (x.1 : Int), .int .i64 v, .int .i64 x.2]) (t := 118) (fr := (0, 0)) (heap_alloc_new _ _)) (by simp [Value.oneCell']) (by unfold maxLen; omega) (by omega) (by simp; omega) ?_); intro v' w1 hown' hgrow _; obtain ⟨g', cap', rfl⟩ := ownsRow_succ hown'; have hu1 : Boxed w1 w2.heap.size 144 u := (hu.alloc _).kept hgrow (hu.not_row (by decide) hrow); have hc1 := hu1.cell; have hf1 := hu1.frozen)
    obtain ⟨_, hu2, _, hk2, hb2⟩ := hu.appended (by decide) (row_lessD hrow (by omega)) hB.size (Nat.le_refl _) (row_lessD hown' (by omega)) hgrow
    refine ⟨hk2.from _, ⟨hb2, ?_⟩, ⟨⟨_, hu2, ?_, trivial⟩, hB.trans hb2⟩, by have := hb2.size; omega⟩
    · have h1 := hgrow.block (w2.heap.size + 1 + 1) (by simp; omega) (fun h => by have := (hrow.lt _ h.symm).1; omega)
      exact (heap_setCell_other w1 ⟨w2.heap.size, 0, none⟩ _ _ (by show w2.heap.size + 1 + 1 ≠ w2.heap.size; omega)).trans (h1.trans (Below.heap_alloc W _ _ (by omega)))
    · have h2 := hown'.kept (grownBy_setCell' w1 w2.heap.size (.slice (some ⟨g', 0, none⟩) (pre.length + 1) cap')) (.inr (hu1.not_row (by decide) hown').symm)
      rw [dirVals_app]
      simpa using h2
  case done =>
    rintro D ys W hD rfl ⟨⟨⟨u, hu, hrow, _⟩, hB⟩, hsz⟩ hK
    have hc := hu.cell
    gi_wp2
    refine ⟨by simp, .inl ⟨_, _, rfl, run_takeDeferred hK, ?_⟩⟩
    have hrw := ownsRow_putObj hrow (.deferred none) hK rfl
    obtain ⟨g, cap, rfl, hg, hR⟩ := ReadsD.of_row hrw rfl (by rw [HL.out]; omega)
    rw [HL.out]
    exact ⟨_, results_tmp rfl _ _ _, g, cap, rfl, by omega, hR, (bfrom HB2.out hB).trans ((belowK_b (w := w2) (Nat.le_refl _) W D _ _ (by simp at hD; omega) hK rfl rfl).mono hz2s)⟩
  case stop =>
    rintro D c pre W _ _ h _
    exact h.elim

end Go.Proofs.Ytfdlhdgmbjdhbaa

/- Going on along the edges of an even set, in the program: withinSet's function. -/
namespace Go.Proofs.Ytfdlhdgmbjdhbaa
open Go.RowKit

/-- A directed edge in a block of its own. -/
def Box3 (w : World) (B : Nat) (x y z : Int) : Prop := w.heap[B]? = some (.cells #[.int .i64 x, .int .i64 y, .int .i64 z] 118 (0, 0))
theorem Box3.on {w w' : World} {B : Nat} {x y z : Int} (h : Box3 w B x y z) (hb : Below w.heap.size w w') : Box3 w' B x y z := (hb.block B (Array.getElem?_eq_some_iff.1 h).1).trans h
theorem Box3.lt {w : World} {B : Nat} {x y z : Int} (h : Box3 w B x y z) : B < w.heap.size := (Array.getElem?_eq_some_iff.1 h).1
theorem Box3.new (w : World) (B : Nat) (x y z : Int) (hB : B = w.heap.size) : Box3 (w.alloc (.cells #[.int .i64 x, .int .i64 y, .int .i64 z] 118)) B x y z := by subst hB; exact heap_alloc_new w _
theorem Box3.c0 {w : World} {B : Nat} {x y z : Int} (h : Box3 w B x y z) : w.cell? ⟨B, 0, none⟩ = some (.int .i64 x) := cell_of_row w B 0 _ _ _ h
theorem Box3.c1 {w : World} {B : Nat} {x y z : Int} (h : Box3 w B x y z) : w.cell? ⟨B, 1, none⟩ = some (.int .i64 y) := cell_of_row w B 1 _ _ _ h
theorem Box3.c2 {w : World} {B : Nat} {x y z : Int} (h : Box3 w B x y z) : w.cell? ⟨B, 2, none⟩ = some (.int .i64 z) := cell_of_row w B 2 _ _ _ h
theorem Box3.fr {w : World} {B : Nat} {x y z : Int} (h : Box3 w B x y z) (j : Nat) : w.frozen? ⟨B, j, none⟩ = false := frozen_of_row w B j _ _ h
theorem ReadsD.on {w w' : World} {g : Nat} {v : Int} {L : List (Nat × Int)} (h : ReadsD w g v L) (hb : Below w.heap.size w w') : ReadsD w' g v L := fun i hi => by
  obtain ⟨h1, h2, h3⟩ := h i hi
  have hl : g < w.heap.size := World.block_lt_of_cell? w ⟨g, i * 3, none⟩ h1
  exact ⟨(hb.cell (p := ⟨g, i * 3, none⟩) hl).trans h1, (hb.cell (p := ⟨g, i * 3 + 1, none⟩) hl).trans h2, (hb.cell (p := ⟨g, i * 3 + 2, none⟩) hl).trans h3⟩

theorem arF_at {s : Int} {es : List (Int × Int)} (g : IsG s es) {v : Int} (hv : 0 ≤ v ∧ v < s) : (arF es v).length = 3 ∧ (∀ i, i < 3 → onE es v ((arF es v).getD i (0, 0)).1 = true ∧ ((arF es v).getD i (0, 0)).1 < es.length ∧ ((arF es v).getD i (0, 0)).2 = othE es v ((arF es v).getD i (0, 0)).1) ∧ ∀ x, x < es.length → onE es v x = true → ∃ i, i < 3 ∧ ((arF es v).getD i (0, 0)).1 = x := by
  have hl : (arF es v).length = 3 := by
    obtain ⟨x, y, z, h, _⟩ := onL_three g hv
    have h2 := congrArg List.length (arU_fst es v es.length)
    rw [List.length_map, show atU es v es.length = atF es v from rfl, onL_at, List.length_map, h] at h2
    exact h2
  have hmem : ∀ y, y ∈ arF es v ↔ ∃ x, x < es.length ∧ onE es v x = true ∧ y = (x, othE es v x) := by
    intro y
    unfold arF arU
    simp only [List.mem_map, List.mem_filter, List.mem_range]
    have key : ∀ x, onE es v x = true → (acrossF (eA es x) (eB es x) v).1 = othE es v x := fun x hx => by
      unfold acrossF othE
      unfold onE at hx
      by_cases h1 : eA es x = v
      · rw [if_pos h1]; simp; omega
      · rw [if_neg h1]
        have h2 : eB es x = v := by simpa [h1] using hx
        rw [if_pos h2]; simp; omega
    constructor
    · rintro ⟨x, ⟨h1, h2⟩, rfl⟩
      exact ⟨x, h1, h2, by rw [key x h2]⟩
    · rintro ⟨x, h1, h2, rfl⟩
      exact ⟨x, ⟨h1, h2⟩, by rw [key x h2]⟩
  have hget : ∀ i, i < 3 → (arF es v).getD i (0, 0) ∈ arF es v := fun i hi => by
    rw [List.getD_eq_getElem?_getD, List.getElem?_eq_getElem (by omega)]
    exact List.getElem_mem _
  refine ⟨hl, fun i hi => ?_, fun x hx ho => ?_⟩
  · obtain ⟨x, h1, h2, h3⟩ := (hmem _).1 (hget i hi)
    rw [h3]
    exact ⟨h2, h1, rfl⟩
  · have h := (hmem (x, othE es v x)).2 ⟨x, hx, ho, rfl⟩
    obtain ⟨i, hi, e⟩ := List.getElem_of_mem h
    refine ⟨i, by omega, ?_⟩
    rw [List.getD_eq_getElem?_getD, List.getElem?_eq_getElem hi, e]
    rfl

set_option maxRecDepth 100000 in
set_option maxHeartbeats 8000000 in
theorem iWithin_any (N E V F Bg Bs b off n c m fc : Nat) (ps : Option Addr) (es : List (Int × Int)) (xs : List Int) (w : World) (hn : es.length = n) (hr : ReadsE w b off es) (g : IsG N es) (hx : xs.length = m) (hm : m ≤ 1048576) (hrx : SeesI w ps xs)
    (hG0 : w.cell? ⟨Bg, 0, none⟩ = some (.int .i64 N)) (hG1 : w.cell? ⟨Bg, 1, none⟩ = some (.slice (some ⟨b, off, none⟩) n c)) (hS : w.cell? ⟨Bs, 0, none⟩ = some (.slice ps m fc))
    (hVN : V < N) (hF : othE es V E = F) (NX Y : Nat) (h1 : NX ≠ E) (h2 : onE es V NX = true) (h3 : NX < es.length) (h4 : (NX : Int) ∈ xs) (h5 : othE es V NX = Y)
    (h6 : ∀ x : Nat, x < es.length → onE es V x = true → (x : Int) ∈ xs → x = E ∨ x = NX) :
    Calls Try.prog 124 #[dirV E F V, .pointer (some ⟨Bg, 0, none⟩), .pointer (some ⟨Bs, 0, none⟩)] w fun r w' => r = .returned (dirV NX V Y) ∧ Below w.heap.size w w' := by
  have hn30 : n ≤ 30 := by have := isG_len g; omega
  have h1n : 1 ≤ n := by have := g.1.1.2.2.2; have := g.1.1.1; omega
  obtain ⟨hL3, hLa, hLb⟩ := arF_at g (v := (V : Int)) ⟨by omega, by omega⟩
  have Hn := hid hn
  have Hr := hid hr
  have Hx := hid hx
  have Hrx := hid hrx
  have HL3 := hid hL3
  have HLa := hid hLa
  have HLb := hid hLb
  have HG0 := hid hG0
  have HG1 := hid hG1
  have HS := hid hS
  have HF := hid hF
  have HX := hid (And.intro h1 (And.intro h2 (And.intro h3 (And.intro h4 (And.intro h5 h6)))))
  have hBgl : Bg < w.heap.size := World.block_lt_of_cell? w ⟨Bg, 0, none⟩ hG0
  have hBsl : Bs < w.heap.size := World.block_lt_of_cell? w ⟨Bs, 0, none⟩ hS
  clear hn hr g hx hrx hL3 hLa hLb hF h1 h2 h3 h4 h5 h6 hS
  go_enter Try.func124, Try.ntmps124
  go_wp2_with fail
  obtain ⟨w1, hw1⟩ : ∃ w1, w1 = (w.alloc (.cells #[.int .i64 E, .int .i64 F, .int .i64 V] 118)).alloc (.cells #[.int .i64 0, .int .i64 0, .int .i64 0] 118) := ⟨_, rfl⟩
  have HB1 := hid (show Below w.heap.size w w1 by rw [hw1]; exact bfrom (on_alloc _ _) (on_alloc _ _))
  have HD1 := hid (show Box3 w1 w.heap.size E F V by rw [hw1]; exact (Box3.new w _ _ _ _ rfl).on (on_alloc _ _))
  have HR1 := hid (show Box3 w1 (w.heap.size + 1) 0 0 0 by rw [hw1]; exact Box3.new _ _ _ _ _ (by simp))
  rw [← hw1]
  clear hw1 hG0 hG1
  refine (iDirFrom_any N V b off n c es w1 hn30 Hn.out (Hr.out.on HB1.out) h1n HL3.out).mono ?_
  rintro e w2 ⟨gd, cd, rfl, hgd, hrd, hb2⟩
  have HRD := hid hrd
  have HB2 := hid (bfrom HB1.out hb2)
  have HD2 := hid (HD1.out.on hb2)
  have HR2 := hid (HR1.out.on hb2)
  have hs2 := HB2.out.size
  clear hrd hb2 HD1 HR1
  obtain ⟨L, hL⟩ : ∃ L, arF es V = L := ⟨_, rfl⟩
  rw [hL] at HRD HL3 HLa HLb
  clear hL
  go_wp2
  go_loopw [12] (fun i wr => ∃ i' : Nat, i' ≤ 3 ∧ i = .int .i64 i' ∧ Hid (∀ j, j < i' → (L.getD j (0, 0)).1 = E ∨ ((L.getD j (0, 0)).1 : Int) ∉ xs) ∧ Hid (Below w2.heap.size w2 wr)) (fun i _ => 3 - (intOf i).toNat)
  case atStart => exact ⟨0, Nat.zero_le _, rfl, hid (fun j hj => by omega), hid (Below.refl _ _)⟩
  case round =>
    obtain ⟨i, hi, rfl, hP, hB⟩ := hrel
    by_cases hlt : i < 3
    · obtain ⟨x0, x1, x2⟩ := (HRD.out.on hB.out) i (by rw [HL3.out]; exact hlt)
      obtain ⟨y0, y1, y2⟩ := HLa.out i hlt
      obtain ⟨P, hP'⟩ : ∃ P, L.getD i (0, 0) = P := ⟨_, rfl⟩
      rw [hP'] at x0 x2 y0 y1 y2
      obtain ⟨x, y⟩ := P
      dsimp only at x0 x2 y0 y1 y2
      have hlt' : (i : Int) < 3 := by omega
      have HBw := hid (bfrom HB2.out hB.out)
      have hszr := hB.out.size
      have hgdl : gd < wr.heap.size := World.block_lt_of_cell? wr ⟨gd, i * 3, none⟩ x0
      have HDr := hid (HD2.out.on hB.out)
      have HRr := hid (HR2.out.on hB.out)
      have hd0 := HDr.out.c0
      have hd1 := HDr.out.c1
      have hd2 := HDr.out.c2
      have hdl := HDr.out.lt
      have hr0 := HRr.out.c0
      have hr1 := HRr.out.c1
      have hr2 := HRr.out.c2
      have hf0 := HRr.out.fr 0
      have hf1 := HRr.out.fr 1
      have hf2 := HRr.out.fr 2
      have hrl := HRr.out.lt
      have hcs := (HBw.out.cell (p := ⟨Bs, 0, none⟩) hBsl).trans HS.out
      have hBsr : Bs < wr.heap.size := by have := HBw.out.size; omega
      have HPx := hid hP'
      have HY := hid (And.intro y0 (And.intro y1 y2))
      clear hP' y0 y1 y2
      obtain ⟨wo, rfl⟩ : ∃ wo : World, wo = wr := ⟨_, rfl⟩
      have HN := hid (Box3.new wo _ x V y rfl)
      have HDn := hid (HDr.out.on (on_alloc wo (.cells #[.int .i64 x, .int .i64 V, .int .i64 y] 118)))
      have HSn := hid (((on_alloc wo (.cells #[.int .i64 x, .int .i64 V, .int .i64 y] 118)).cell (p := ⟨Bs, 0, none⟩) hBsr).trans hcs)
      have HRxn := hid ((Hrx.out.on HBw.out).on (on_alloc wo (.cells #[.int .i64 x, .int .i64 V, .int .i64 y] 118)))
      by_cases hxE : x = E
      · obtain rfl : E = x := hxE.symm
        have hyF : y = (F : Int) := by rw [HY.out.2.2]; exact HF.out
        subst hyF
        go_wp2
        first
          | (go_region_with (go_at_call 126; refine (iBack_any _ _ _ _).mono ?_; rintro e' w5 ⟨rfl, hb5⟩; have hb5' : Below (wo.alloc (.cells #[.int .i64 E, .int .i64 V, .int .i64 F] 118)).heap.size (wo.alloc (.cells #[.int .i64 E, .int .i64 V, .int .i64 F] 118)) w5 := bfrom (Below.refl _ _).drew hb5; have hn5 := HN.out.on hb5'; have hd5 := HDn.out.on hb5'; have g0 := hn5.c0; have g1 := hn5.c1; have g2 := hn5.c2; have g3 := hd5.c0; have g4 := hd5.c1; have g5 := hd5.c2; have g6 := (hb5'.cell (p := ⟨Bs, 0, none⟩) (by simp; omega)).trans HSn.out))
          | fail
        all_goals
          have HB5 := hid (bfrom hB.out (bfrom (on_alloc _ _) hb5'))
          clear hb5 hb5' hn5 hd5
          go_wp2
          go_roundw
          case rel =>
            refine ⟨i + 1, by omega, by go_num, hid (fun j hj => ?_), by first | exact HB5 | exact hid (bdn.mpr HB5.out)⟩
            rcases Nat.lt_or_ge j i with h | h
            · exact hP.out j h
            · rw [show j = i by omega, HPx.out]; exact .inl rfl
          case measure => simp [intOf]; omega
      · have HXE := hid hxE
        have t1 : ((x : Int) == (E : Int)) = false := by simp; omega
        clear hxE
        by_cases hxs : (x : Int) ∈ xs
        · have HXS := hid hxs
          clear hxs
          go_wp2
          go_region_held3 (fun w' => w'.cell? ⟨Bs, 0, none⟩ = some (.slice ps m fc) ∧ (w'.cell? ⟨wo.heap.size, 0, none⟩ = some (.int .i64 x) ∧ w'.cell? ⟨wo.heap.size, 1, none⟩ = some (.int .i64 V) ∧ w'.cell? ⟨wo.heap.size, 2, none⟩ = some (.int .i64 y)) ∧ w'.cell? ⟨w.heap.size, 0, none⟩ = some (.int .i64 E) ∧ w'.cell? ⟨w.heap.size, 1, none⟩ = some (.int .i64 F) ∧ w'.cell? ⟨w.heap.size, 2, none⟩ = some (.int .i64 V)) (go_keep) (first
            | (go_at_call 126; refine (iBack_any _ _ _ _).mono ?_; rintro e' w5 ⟨rfl, hb5⟩; have hb5' : Below (wo.alloc (.cells #[.int .i64 x, .int .i64 V, .int .i64 y] 118)).heap.size (wo.alloc (.cells #[.int .i64 x, .int .i64 V, .int .i64 y] 118)) w5 := bfrom (Below.refl _ _).drew hb5; have hn5 := HN.out.on hb5'; have hd5 := HDn.out.on hb5'; have g0 := hn5.c0; have g1 := hn5.c1; have g2 := hn5.c2; have g3 := hd5.c0; have g4 := hd5.c1; have g5 := hd5.c2; have g6 := (hb5'.cell (p := ⟨Bs, 0, none⟩) (by simp; omega)).trans HSn.out)
            | (go_at_call 72; refine (iContains_any ps m fc x xs _ Hx.out hm (HRxn.out.on hb5')).mono ?_; rw [decide_eq_true HXS.out]; rintro e' w' ⟨rfl, rfl⟩))
          have hr5 := (HRr.out.on (bfrom (on_alloc _ _) hb5'))
          have k0 := hr5.c0
          have k1 := hr5.c1
          have k2 := hr5.c2
          have k3 := hr5.fr 0
          have k4 := hr5.fr 1
          have k5 := hr5.fr 2
          have k6 := hr5.lt
          have HB5 := hid (bfrom HBw.out (bfrom (on_alloc _ _) hb5'))
          have hxNX : x = NX := by
            rcases HX.out.2.2.2.2.2 x HY.out.2.1 HY.out.1 HXS.out with h | h
            · exact absurd h HXE.out
            · exact h
          have hyY : y = (Y : Int) := by rw [HY.out.2.2, hxNX]; exact HX.out.2.2.2.2.1
          have HXY := hid (And.intro hxNX hyY)
          clear hxNX hyY hb5 hb5' hn5 hd5 hr5
          go_wp2
          refine bodyPost_ret (v := dirV x V y) (by simp [results, Try.results124, go_sem, k0, k1, k2]) rfl ⟨by rw [HXY.out.1, HXY.out.2], ?_⟩
          first
            | exact ((HB5.out.setCell (p := ⟨w.heap.size + 1, 0, none⟩) (by simp) _).setCell (p := ⟨w.heap.size + 1, 1, none⟩) (by simp) _).setCell (p := ⟨w.heap.size + 1, 2, none⟩) (by simp) _
            | exact bdn.mpr (((HB5.out.setCell (p := ⟨w.heap.size + 1, 0, none⟩) (by simp) _).setCell (p := ⟨w.heap.size + 1, 1, none⟩) (by simp) _).setCell (p := ⟨w.heap.size + 1, 2, none⟩) (by simp) _)
        · have HXS := hid hxs
          clear hxs
          go_wp2
          go_region_held3 (fun w' => w'.cell? ⟨Bs, 0, none⟩ = some (.slice ps m fc) ∧ (w'.cell? ⟨wo.heap.size, 0, none⟩ = some (.int .i64 x) ∧ w'.cell? ⟨wo.heap.size, 1, none⟩ = some (.int .i64 V) ∧ w'.cell? ⟨wo.heap.size, 2, none⟩ = some (.int .i64 y)) ∧ w'.cell? ⟨w.heap.size, 0, none⟩ = some (.int .i64 E) ∧ w'.cell? ⟨w.heap.size, 1, none⟩ = some (.int .i64 F) ∧ w'.cell? ⟨w.heap.size, 2, none⟩ = some (.int .i64 V)) (go_keep) (first
            | (go_at_call 126; refine (iBack_any _ _ _ _).mono ?_; rintro e' w5 ⟨rfl, hb5⟩; have hb5' : Below (wo.alloc (.cells #[.int .i64 x, .int .i64 V, .int .i64 y] 118)).heap.size (wo.alloc (.cells #[.int .i64 x, .int .i64 V, .int .i64 y] 118)) w5 := bfrom (Below.refl _ _).drew hb5; have hn5 := HN.out.on hb5'; have hd5 := HDn.out.on hb5'; have g0 := hn5.c0; have g1 := hn5.c1; have g2 := hn5.c2; have g3 := hd5.c0; have g4 := hd5.c1; have g5 := hd5.c2; have g6 := (hb5'.cell (p := ⟨Bs, 0, none⟩) (by simp; omega)).trans HSn.out)
            | (go_at_call 72; refine (iContains_any ps m fc x xs _ Hx.out hm (HRxn.out.on hb5')).mono ?_; rw [decide_eq_false HXS.out]; rintro e' w' ⟨rfl, rfl⟩))
          have HB5 := hid (bfrom hB.out (bfrom (on_alloc _ _) hb5'))
          clear hb5 hb5' hn5 hd5
          go_wp2
          go_roundw
          case rel =>
            refine ⟨i + 1, by omega, by go_num, hid (fun j hj => ?_), by first | exact HB5 | exact hid (bdn.mpr HB5.out)⟩
            rcases Nat.lt_or_ge j i with h | h
            · exact hP.out j h
            · rw [show j = i by omega, HPx.out]; exact .inr HXS.out
          case measure => simp [intOf]; omega
    · exfalso
      obtain ⟨j, hj, e⟩ := HLb.out NX HX.out.2.2.1 HX.out.2.1
      have h := hP.out j (by omega)
      rw [e] at h
      rcases h with h | h
      · exact HX.out.1 h
      · exact h HX.out.2.2.2.1

end Go.Proofs.Ytfdlhdgmbjdhbaa

/- Closed walks, ranged over in the program: closedWalk, for every function that goes on. -/
namespace Go.Proofs.Ytfdlhdgmbjdhbaa
open Go.RowKit Go.Shelf

attribute [local go_sem] Oper.semAt_some

/-- A directed edge: the edge, whence, whither. -/
abbrev DirT := Int × Int × Int
abbrev encD (x : DirT) : Array Value := #[dirV x.1 x.2.1 x.2.2]
abbrev BoxT (w : World) (B : Nat) (x : DirT) : Prop := Box3 w B x.1 x.2.1 x.2.2
/-- What lies at an address, read off the world. -/
def triAt (w : World) : Value → DirT
  | .pointer (some a) => (intOf ((w.cell? ⟨a.block, 0, none⟩).getD (.int .i64 0)), intOf ((w.cell? ⟨a.block, 1, none⟩).getD (.int .i64 0)), intOf ((w.cell? ⟨a.block, 2, none⟩).getD (.int .i64 0)))
  | _ => (0, 0, 0)
theorem triAt_box {w : World} {B : Nat} {x : DirT} (h : BoxT w B x) : triAt w (.pointer (some ⟨B, 0, none⟩)) = x := by
  unfold triAt
  simp only [h.c0, h.c1, h.c2]
  rfl
def idxD (st : Nat → DirT) (K : Nat) (t : DirT) : Nat := ((List.range K).find? fun i => st i == t).getD K
theorem idxD_at {st : Nat → DirT} {K k : Nat} (hinj : ∀ i j, i < j → j < K → st i ≠ st j) (hk : k < K) : idxD st K (st k) = k := by
  unfold idxD
  cases hf : (List.range K).find? fun i => st i == st k with
  | none =>
    have := List.find?_eq_none.1 hf k (List.mem_range.2 hk)
    simp at this
  | some x =>
    have hp := List.find?_some hf
    have hm := List.mem_range.1 (List.mem_of_find?_eq_some hf)
    simp at hp
    show x = k
    rcases Nat.lt_trichotomy x k with h | h | h
    · exact absurd hp (hinj x k h hk)
    · exact h
    · exact absurd hp.symm (hinj k x h hm)
theorem Box3.set {w : World} {B : Nat} {x y z : Int} (h : Box3 w B x y z) (x' y' z' : Int) : Box3 (((w.setCell ⟨B, 0, none⟩ (.int .i64 x')).setCell ⟨B, 1, none⟩ (.int .i64 y')).setCell ⟨B, 2, none⟩ (.int .i64 z')) B x' y' z' :=
  heap_setCell_same _ _ _ _ _ _ (heap_setCell_same _ _ _ _ _ _ (heap_setCell_same _ _ _ _ _ _ h))

set_option maxHeartbeats 1000000 in
theorem iWalk_any (e f t : Int) (G : Value) (w : World) (hG : G.oneCell' = true) :
    Calls Try.prog 93 #[dirV e f t, G] w fun r w' => r = .returned (.func (.func 123) #[] #[.pointer (some ⟨w.heap.size, 0, none⟩), .pointer (some ⟨w.heap.size + 1, 0, none⟩)]) ∧ w' = (w.alloc (.cells #[.int .i64 e, .int .i64 f, .int .i64 t] 118)).alloc (.cells #[G] 120) := by
  go_enter Try.func93, Try.ntmps93
  go_wp2
  go_ret
  exact ⟨rfl, rfl⟩

theorem Kept.callD {p : Nat → Prop} {A B C : World} (h : Kept p A B) (hb : Below B.heap.size B C) : Kept p A C :=
  h.trans ⟨hb.os, hb.tape, hb.output, hb.size, fun i _ hi => hb.block i hi⟩

theorem Kept.setD {p : Nat → Prop} {A B : World} (h : Kept p A B) {a : Addr} (ha : ¬ p a.block) (v : Value) : Kept p A (B.setCell a v) :=
  h.trans ⟨rfl, rfl, rfl, by simp [World.setCell], fun i hi _ => heap_setCell_other B a i v (fun e => ha (by rw [← e]; exact hi))⟩

/-- What a round of a closed walk must leave alone: some blocks that were there, and all that the walk makes. -/
def keepD (q : Nat → Prop) (n0 Ab i : Nat) : Prop := (i < n0 ∧ q i) ∨ Ab ≤ i

set_option maxRecDepth 100000 in
set_option maxHeartbeats 16000000 in
theorem walk_movesX (d Ab Bs Bn gf K : Nat) (caps : Array Value) (st : Nat → DirT) (q : Nat → Prop) (w0 : World) (hA : w0.heap.size ≤ Ab) (hBs : Bs < w0.heap.size) (hBn : Bn < w0.heap.size) (hqs : q Bs) (hqn : q Bn)
    (hK : 0 < K) (hend : st K = st 0) (hinj : ∀ i j, i < j → j < K → st i ≠ st j)
    (hS : BoxT w0 Bs (st 0)) (hN : w0.cell? ⟨Bn, 0, none⟩ = some (.func (.func gf) #[] caps)) (eg : ∀ args w, (callFunc gf args).run Try.prog w = .ok (.enter gf args) w)
    (hnext : ∀ i, i < K → ∀ W, Kept (fun i => i < w0.heap.size ∧ q i) w0 W → Calls Try.prog gf (#[dirV (st i).1 (st i).2.1 (st i).2.2] ++ caps) W fun r W' => r = .returned (dirV (st (i + 1)).1 (st (i + 1)).2.1 (st (i + 1)).2.2) ∧ Below W.heap.size W W') :
    SeqMoves Fence.wide (d + 1) Try.prog 123 #[.pointer (some ⟨Bs, 0, none⟩), .pointer (some ⟨Bn, 0, none⟩)] encD Ab (fun x _ => ∃ j, j < K ∧ x = st j) (Kept (keepD q w0.heap.size Ab)) (Kept (fun i => i < Ab))
      (fun ys => ys = (List.range K).map st) (fun pre => ∃ k, k ≤ K ∧ pre = (List.range k).map st) K w0 := by
  intro l J Jx W hW hB hJ hJx hY h0
  subst hW
  have HJ := hid hJ
  have HJx := hid hJx
  have HY := hid (show ∀ pre x W1, J pre W1 → (∃ j, j < K ∧ x = st j) → pre.length < K → YieldAt Fence.wide d Try.prog l (encD x) W1 fun e W' => (e = .returned (.bool true) ∧ J (pre ++ [x]) W' ∧ Kept (keepD q w0.heap.size W.heap.size) W1 W') ∨ (e = .returned (.bool false) ∧ Jx (pre ++ [x]) W') from hY)
  have HEnd := hid hend
  have HInj := hid hinj
  have HNext := hid hnext
  have HSW := hid (show BoxT W Bs (st 0) from (hB.block Bs hBs).trans hS)
  have HNW := hid (show W.cell? ⟨Bn, 0, none⟩ = some (.func (.func gf) #[] caps) from (hB.cell (p := ⟨Bn, 0, none⟩) hBn).trans hN)
  have HW0 := hid hB
  have hsz := hB.size
  have s0 := HSW.out.c0
  have s1 := HSW.out.c1
  have s2 := HSW.out.c2
  have hsl := HSW.out.lt
  clear hend hinj hnext hS hN hJ hJx hY hB
  refine callsIn_of_wp Try.func123 rfl trivial ?_ rfl
  simp only [Try.ntmps123, List.size_toArray, List.length_cons, List.length_nil, Nat.reduceAdd, Nat.reduceSub, Array.replicate_succ, Array.replicate_zero, List.push_toArray, List.append_toArray, List.nil_append, List.cons_append]
  gi_wp2
  obtain ⟨w2, hw2⟩ : ∃ w2, w2 = W.alloc (.cells #[.int .i64 (st 0).1, .int .i64 (st 0).2.1, .int .i64 (st 0).2.2] 118) := ⟨_, rfl⟩
  rw [← hw2]
  have HD2 := hid (show BoxT w2 W.heap.size (st 0) by rw [hw2]; exact Box3.new W _ _ _ _ rfl)
  have HK2 := hid (show Kept (keepD q w0.heap.size W.heap.size) W w2 by rw [hw2]; exact (Kept.refl _ W).callD (on_alloc _ _))
  have HJ2 := hid (show J [] w2 by rw [hw2]; exact HJ.out [] W _ h0 ((Kept.refl _ W).callD (on_alloc _ _)))
  clear hw2 s0 s1 s2
  gi_loopw [4] (fun u wr => ∃ (k Bd : Nat), k < K ∧ W.heap.size ≤ Bd ∧ u = .pointer (some ⟨Bd, 0, none⟩) ∧ Hid (J ((List.range k).map st) wr) ∧ Hid (BoxT wr Bd (st k)) ∧ Hid (Kept (keepD q w0.heap.size W.heap.size) W wr)) (fun u wr => K - idxD st K (triAt wr u))
  case atStart => exact ⟨0, W.heap.size, hK, Nat.le_refl _, rfl, HJ2, HD2, HK2⟩
  case round =>
    obtain ⟨k, Bd, hk, hBd, rfl, hJk, hD, hKk⟩ := hrel
    clear HJ2 HD2 HK2
    have d0 := hD.out.c0
    have d1 := hD.out.c1
    have d2 := hD.out.c2
    have hdl := hD.out.lt
    have hlen : ((List.range k).map st).length = k := by simp
    obtain ⟨fn, tmps, assign, body, hy, hR⟩ := HY.out ((List.range k).map st) (st k) wr hJk.out ⟨k, hk, rfl⟩ (by rw [hlen]; exact hk)
    dsimp only [encD] at hy
    have hR' := hid hR
    have HMu := hid (show idxD st K (triAt wr (.pointer (some ⟨Bd, 0, none⟩))) = k by rw [triAt_box hD.out]; exact idxD_at HInj.out hk)
    clear hR hlen
    obtain ⟨wo, rfl⟩ : ∃ wo : World, wo = wr := ⟨_, rfl⟩
    gi_wp2
    refine hR'.out.mono ?_
    rintro e W3 (⟨rfl, hJ3, hk3⟩ | ⟨rfl, hJx3⟩)
    · have HJ3 := hid (show J ((List.range (k + 1)).map st) W3 by rw [List.range_succ, List.map_append]; exact hJ3)
      have HK3 := hid (hKk.out.trans hk3)
      have HD3 := hid (show BoxT W3 Bd (st k) from (hk3.same Bd (.inr hBd) hdl).trans hD.out)
      have hn3 := (World.cell?_of_block (w := W) (a := ⟨Bn, 0, none⟩) (HK3.out.same Bn (.inl ⟨hBn, hqn⟩) (by omega))).trans HNW.out
      have HS3 := hid (show BoxT W3 Bs (st 0) from (HK3.out.same Bs (.inl ⟨hBs, hqs⟩) hsl).trans HSW.out)
      have HKn := hid (show Kept (fun i => i < w0.heap.size ∧ q i) w0 W3 from (Kept.trans (B := W) ⟨HW0.out.os, HW0.out.tape, HW0.out.output, HW0.out.size, fun i hi hl => HW0.out.block i hl⟩ (HK3.out.mono fun i hi => .inl hi)))
      have e0 := HD3.out.c0
      have e1 := HD3.out.c1
      have e2 := HD3.out.c2
      have hs3 := HK3.out.size
      have hBn3 : Bn < W3.heap.size := by omega
      have hd3 := HD3.out.lt
      clear hJ3 hk3 hR' hy d0 d1 d2
      by_cases hlast : k + 1 = K
      · have HL := hid hlast
        have HCall := hid (show Calls Try.prog gf (#[dirV (st k).1 (st k).2.1 (st k).2.2] ++ caps) W3 fun r W' => r = .returned (dirV (st 0).1 (st 0).2.1 (st 0).2.2) ∧ Below W3.heap.size W3 W' by
          have h := HNext.out k hk W3 HKn.out
          rw [hlast, HEnd.out] at h
          exact h)
        clear hlast
        gi_wp2_with (refine ⟨trivial, ?_⟩; refine (callsIn_wide.2 HCall.out).mono ?_; rintro e' w4 ⟨rfl, hb4⟩; have hD4 := HD3.out.on hb4; have hS4 := HS3.out.on hb4; have f0 := hD4.c0; have f1 := hD4.c1; have f2 := hD4.c2; have f3 := hD4.fr 0; have f4 := hD4.fr 1; have f5 := hD4.fr 2; have f6 := hS4.c0; have f7 := hS4.c1; have f8 := hS4.c2; have f9 := hD4.lt; have f10 := hS4.lt; have f11 : Bs ≠ Bd := (by omega))
        have HJ5 := hid (HJ.out _ _ (((w4.setCell ⟨Bd, 0, none⟩ (.int .i64 (st 0).1)).setCell ⟨Bd, 1, none⟩ (.int .i64 (st 0).2.1)).setCell ⟨Bd, 2, none⟩ (.int .i64 (st 0).2.2)) HJ3.out ((((Kept.refl _ W3).callD hb4).setD (a := ⟨Bd, 0, none⟩) (by show ¬ Bd < W.heap.size; omega) _).setD (a := ⟨Bd, 1, none⟩) (by show ¬ Bd < W.heap.size; omega) _ |>.setD (a := ⟨Bd, 2, none⟩) (by show ¬ Bd < W.heap.size; omega) _))
        refine bodyPost_ret (results_none rfl _ _ _) rfl ⟨⟨_, rfl⟩, .inl ⟨_, rfl, ?_⟩⟩
        rw [← HL.out]
        exact HJ5.out
      · have hk1 : k + 1 < K := by omega
        have hne := HInj.out 0 (k + 1) (by omega) hk1
        have HCall := hid (HNext.out k hk W3 HKn.out)
        obtain ⟨z, hz⟩ : ∃ z, st (k + 1) = z := ⟨_, rfl⟩
        rw [hz] at HCall hne
        have HZ := hid hz
        have HIx := hid (show idxD st K z = k + 1 by rw [← hz]; exact idxD_at HInj.out hk1)
        have hcase : ((z.1 == (st 0).1) = false) ∨ ((z.1 == (st 0).1) = true ∧ (z.2.1 == (st 0).2.1) = false) ∨ ((z.1 == (st 0).1) = true ∧ (z.2.1 == (st 0).2.1) = true ∧ (z.2.2 == (st 0).2.2) = false) := by
          by_cases h1 : z.1 = (st 0).1
          · by_cases h2 : z.2.1 = (st 0).2.1
            · right; right
              refine ⟨by simpa using h1, by simpa using h2, ?_⟩
              have h3 : z.2.2 ≠ (st 0).2.2 := fun h => hne (Prod.ext h1.symm (Prod.ext h2.symm h.symm))
              simpa using h3
            · right; left; exact ⟨by simpa using h1, by simpa using h2⟩
          · left; simpa using h1
        clear hz hlast hne
        rcases hcase with t1 | ⟨t1, t2⟩ | ⟨t1, t2, t3⟩
        all_goals
          gi_wp2_with (refine ⟨trivial, ?_⟩; refine (callsIn_wide.2 HCall.out).mono ?_; rintro e' w4 ⟨rfl, hb4⟩; have hD4 := HD3.out.on hb4; have hS4 := HS3.out.on hb4; have f0 := hD4.c0; have f1 := hD4.c1; have f2 := hD4.c2; have f3 := hD4.fr 0; have f4 := hD4.fr 1; have f5 := hD4.fr 2; have f6 := hS4.c0; have f7 := hS4.c1; have f8 := hS4.c2; have f9 := hD4.lt; have f10 := hS4.lt; have f11 : Bs ≠ Bd := (by omega))
          obtain ⟨w5, hw5⟩ : ∃ w5, w5 = ((w4.setCell ⟨Bd, 0, none⟩ (.int .i64 z.1)).setCell ⟨Bd, 1, none⟩ (.int .i64 z.2.1)).setCell ⟨Bd, 2, none⟩ (.int .i64 z.2.2) := ⟨_, rfl⟩
          have hs5 : w5.heap.size = w4.heap.size := by rw [hw5]; simp [World.setCell]
          have HK5 := hid (show Kept (fun i => i < W.heap.size) W3 w5 by
            rw [hw5]
            exact ((((Kept.refl _ W3).callD hb4).setD (a := ⟨Bd, 0, none⟩) (by show ¬ Bd < W.heap.size; omega) _).setD (a := ⟨Bd, 1, none⟩) (by show ¬ Bd < W.heap.size; omega) _).setD (a := ⟨Bd, 2, none⟩) (by show ¬ Bd < W.heap.size; omega) _)
          rw [← hw5]
          clear hw5 f0 f1 f2 f3 f4 f5 f6 f7 f8 hD4 hS4 e0 e1 e2
          have HK6 := hid (HK5.out.callD (on_alloc w5 (.cells #[.int .i64 z.1, .int .i64 z.2.1, .int .i64 z.2.2] 118)))
          have HD6 := hid (show BoxT (w5.alloc (.cells #[.int .i64 z.1, .int .i64 z.2.1, .int .i64 z.2.2] 118)) w4.heap.size z from Box3.new w5 _ _ _ _ hs5.symm)
          have h4 := hb4.size
          go_roundw
          case rel =>
            refine ⟨k + 1, w4.heap.size, hk1, by omega, rfl, hid (HJ.out _ _ _ HJ3.out HK6.out), hid (by rw [HZ.out]; exact HD6.out), hid ⟨HK6.out.os.trans HK3.out.os, HK6.out.tape.trans HK3.out.tape, HK6.out.output.trans HK3.out.output, Nat.le_trans HK3.out.size HK6.out.size, fun i hp hl => (HK6.out.same i hl (by omega)).trans (HK3.out.same i hp hl)⟩⟩
          case measure =>
            rw [HMu.out, triAt_box HD6.out, HIx.out]
            omega
    · gi_wp2
      go_end0
      exact ⟨⟨_, rfl⟩, .inr ⟨_, ⟨k + 1, by omega, (by rw [List.range_succ, List.map_append]; rfl)⟩, hJx3⟩⟩

theorem walk_moves (d Ab Bs Bn gf K : Nat) (caps : Array Value) (st : Nat → DirT) (q : Nat → Prop) (w0 : World) (hA : w0.heap.size ≤ Ab) (hBs : Bs < w0.heap.size) (hBn : Bn < w0.heap.size) (hqs : q Bs) (hqn : q Bn)
    (hK : 0 < K) (hend : st K = st 0) (hinj : ∀ i j, i < j → j < K → st i ≠ st j)
    (hS : BoxT w0 Bs (st 0)) (hN : w0.cell? ⟨Bn, 0, none⟩ = some (.func (.func gf) #[] caps)) (eg : ∀ args w, (callFunc gf args).run Try.prog w = .ok (.enter gf args) w)
    (hnext : ∀ i, i < K → ∀ W, Kept (fun i => i < w0.heap.size ∧ q i) w0 W → Calls Try.prog gf (#[dirV (st i).1 (st i).2.1 (st i).2.2] ++ caps) W fun r W' => r = .returned (dirV (st (i + 1)).1 (st (i + 1)).2.1 (st (i + 1)).2.2) ∧ Below W.heap.size W W') :
    SeqMoves Fence.wide (d + 1) Try.prog 123 #[.pointer (some ⟨Bs, 0, none⟩), .pointer (some ⟨Bn, 0, none⟩)] encD Ab (fun _ _ => True) (Kept (keepD q w0.heap.size Ab)) (Kept (fun i => i < Ab))
      (fun ys => ys = (List.range K).map st) (fun pre => ∃ k, k ≤ K ∧ pre = (List.range k).map st) K w0 := by
  have h := walk_movesX d Ab Bs Bn gf K caps st q w0 hA hBs hBn hqs hqn hK hend hinj hS hN eg hnext
  exact fun l J Jx W a b c e hr h0 => h l J Jx W a b c e (fun pre x W1 i _ hl => hr pre x W1 i trivial hl) h0

end Go.Proofs.Ytfdlhdgmbjdhbaa

namespace Go.Proofs.Ytfdlhdgmbjdhbaa
open Go.RowKit

/-- Whence and whither an edge is gone along for 0 and for 1. -/
def alT (es : List (Int × Int)) (e t : Nat) : DirT := if t = 0 then ((e : Int), eA es e, eB es e) else ((e : Int), eB es e, eA es e)

set_option maxRecDepth 100000 in
set_option maxHeartbeats 4000000 in
theorem iAlong_any (N b off n c E t : Nat) (es : List (Int × Int)) (w : World) (hn : es.length = n) (hn30 : n ≤ 30) (hr : ReadsE w b off es) (hE : E < n) (ht : t < 2) :
    Calls Try.prog 94 #[.agg #[.int .i64 N, .slice (some ⟨b, off, none⟩) n c], .int .i64 E, .int .i64 t] w fun r w' => r = .returned (dirV (alT es E t).1 (alT es E t).2.1 (alT es E t).2.2) ∧ Below w.heap.size w w' := by
  obtain ⟨h1, h2⟩ := hr E (by omega)
  have hbl : b < w.heap.size := reads_lt hr (by omega)
  obtain ⟨X, hX⟩ : ∃ X, eA es E = X := ⟨_, rfl⟩
  obtain ⟨Y, hY⟩ : ∃ Y, eB es E = Y := ⟨_, rfl⟩
  rw [hX] at h1
  rw [hY] at h2
  have hE' : (E : Int) < (n : Int) := by omega
  unfold alT
  rw [hX, hY]
  clear hX hY hr
  obtain ⟨w1, hw1⟩ : ∃ w1, w1 = (w.alloc (.cells #[.int .i64 N, .slice (some ⟨b, off, none⟩) n c] 28)).alloc (.cells #[.int .i64 0, .int .i64 0, .int .i64 0] 118) := ⟨_, rfl⟩
  have HB1 := hid (show Below w.heap.size w w1 by rw [hw1]; exact bfrom (on_alloc _ _) (on_alloc _ _))
  have HX1 := hid (show Box w1 w.heap.size N (some ⟨b, off, none⟩) n c by rw [hw1]; exact (Box.new w N _ n c 28).on (on_alloc _ _))
  have HR1 := hid (show Box3 w1 (w.heap.size + 1) 0 0 0 by rw [hw1]; exact Box3.new _ _ _ _ _ (by simp))
  have a1 := (HB1.out.cell (p := ⟨b, off + E * 2, none⟩) hbl).trans h1
  have a2 := (HB1.out.cell (p := ⟨b, off + E * 2 + 1, none⟩) hbl).trans h2
  have hy1 := HX1.out.2
  have hz1 := HX1.out.lt
  have hbl1 : b < w1.heap.size := by omega
  have k0 := HR1.out.c0
  have k1 := HR1.out.c1
  have k2 := HR1.out.c2
  have k3 := HR1.out.fr 0
  have k4 := HR1.out.fr 1
  have k5 := HR1.out.fr 2
  have k6 := HR1.out.lt
  rcases (by omega : t = 0 ∨ t = 1) with rfl | rfl
  all_goals
    go_enter Try.func94, Try.ntmps94
    go_wp2
    rw [← hw1]
    clear hw1
    go_region
    go_wp2
  · refine bodyPost_ret (v := dirV E X Y) (by simp [results, Try.results94, go_sem, k0, k1, k2]) rfl ⟨rfl, ?_⟩
    exact bdn.mpr (((HB1.out.setCell (p := ⟨w.heap.size + 1, 0, none⟩) (by simp) _).setCell (p := ⟨w.heap.size + 1, 1, none⟩) (by simp) _).setCell (p := ⟨w.heap.size + 1, 2, none⟩) (by simp) _)
  · refine bodyPost_ret (v := dirV E Y X) (by simp [results, Try.results94, go_sem, k0, k1, k2]) rfl ⟨rfl, ?_⟩
    exact bdn.mpr (((HB1.out.setCell (p := ⟨w.heap.size + 1, 0, none⟩) (by simp) _).setCell (p := ⟨w.heap.size + 1, 1, none⟩) (by simp) _).setCell (p := ⟨w.heap.size + 1, 2, none⟩) (by simp) _)

set_option maxHeartbeats 1000000 in
theorem iMkWithin_any (s : Int) (p ps : Option Addr) (n c m f : Nat) (w : World) :
    Calls Try.prog 95 #[.agg #[.int .i64 s, .slice p n c], .slice ps m f] w fun e w' => e = .returned (.func (.func 124) #[] #[.pointer (some ⟨w.heap.size, 0, none⟩), .pointer (some ⟨w.heap.size + 1, 0, none⟩)]) ∧ w' = (w.alloc (.cells #[.int .i64 s, .slice p n c] 28)).alloc (.cells #[.slice ps m f] 41) := by
  go_enter Try.func95, Try.ntmps95
  go_wp2
  go_ret
  exact ⟨rfl, rfl⟩

end Go.Proofs.Ytfdlhdgmbjdhbaa
