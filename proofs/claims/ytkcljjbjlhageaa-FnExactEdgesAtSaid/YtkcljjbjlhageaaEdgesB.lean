/- EdgesAt in the program. -/
import Derived.Test.YtkcljjbjlhageaaIterA
namespace Go.Proofs.Ytkcljjbjlhageaa
open Go.RowKit Go.Shelf

attribute [local go_sem] Oper.semAt_some

theorem row_less {w : World} {B B' : Nat} {e : TypeId} {sz n : Nat} {v : Value} {xs : List Value} (h : w.ownsRow B e sz v n xs) (hB : B' ≤ B) : w.ownsRow B' e sz v n xs := by
  refine ⟨h.1, ?_⟩
  rcases h.2 with hn | ⟨g, c, cur, hv, hb, r⟩
  · exact .inl hn
  · exact .inr ⟨g, c, cur, hv, Nat.le_trans hB hb, r⟩
theorem freshI_of {B : Nat} {w : World} {v : Value} {n : Nat} {xs : List Int} (h : w.ownsRow B 2 1 v n (intVals xs)) (hl : xs.length = n) : ∃ q cap, v = .slice q n cap ∧ FreshI B w q n cap xs := by
  rcases h.2 with ⟨rfl, h0⟩ | ⟨g, cap, cur, rfl, _⟩
  · subst h0
    exact ⟨none, 0, rfl, h, hl⟩
  · exact ⟨_, _, rfl, h, hl⟩

set_option maxRecDepth 100000 in
set_option maxHeartbeats 8000000 in
theorem iEdgesAt_yes (s v : Int) (b off n c : Nat) (es : List (Int × Int)) (w : World) (hm : n ≤ 30) (hn : es.length = n) (hr : ReadsE w b off es) (g : IsG s es) (hv : 0 ≤ v ∧ v < s) :
    Calls Try.prog 16 #[.agg #[.int .i64 s, .slice (some ⟨b, off, none⟩) n c], .int .i64 v] w fun e w' => ∃ q cap, e = .returned (.tuple #[.slice q (atF es v).length cap, .int .i64 0]) ∧ FreshI w.heap.size w' q (atF es v).length cap (atF es v) ∧ Below w.heap.size w w' := by
  have Hn := hid hn
  have Hr := hid hr
  have G := hid g
  have Hv := hid hv
  obtain ⟨i0, hi, hz0, hz1, hz2⟩ := info_parts infoInt
  have Hi := hid hi
  clear hn hr g hv hi
  refine (callsIn_wide (n := 6)).1 ?_
  refine callsIn_of_wp_marks Try.func16 rfl trivial ?_ rfl
  simp only [Try.ntmps16, List.size_toArray, List.length_cons, List.length_nil, Nat.reduceAdd, Nat.reduceSub, Array.replicate_succ, Array.replicate_zero, List.push_toArray, List.append_toArray, List.nil_append, List.cons_append]
  gi_wp2_with (first
    | (refine ⟨trivial, ?_⟩; gi_at_call 49; refine (callsIn_wide.2 (iIsGraph_any _ _ _ _ es _ (by omega) Hn.out (.inr ⟨b, off, rfl, Hr.out.on (on_alloc _ _)⟩))).mono ?_; rw [decide_eq_true G.out]; rintro e w2 ⟨rfl, hb2⟩; have hX2 := (Box.new w s (some ⟨b, off, none⟩) n c 31).on hb2; have hx2 := hX2.1; have hy2 := hX2.2; have hz2' := hX2.lt)
    | (refine ⟨trivial, ?_⟩; gi_at_call 50; refine (callsIn_wide.2 (iBelow_yes _ _ _ Hv.out)).mono ?_; rintro e w' ⟨rfl, rfl⟩)
    | (refine ⟨trivial, ?_⟩; gi_at_call 51; refine (callsIn_wide.2 (iAround_any _ _ _ _ _ _)).mono ?_; rintro e w' ⟨rfl, rfl⟩))
  have hB2 : Below w.heap.size w w2 := bfrom (on_alloc _ _) hb2
  have hz2s : w.heap.size ≤ w2.heap.size := hB2.size
  have Hb2 := hid hb2
  have HB2 := hid hB2
  clear hb2 hB2 hx2 hy2
  have hbG : (((w2.alloc (.cells #[.slice none 0 0] 26)).alloc (.cells #[.int .i64 s, .slice (some ⟨b, off, none⟩) n c] 31)).alloc (.cells #[.int .i64 v] 2)).cell? ⟨w2.heap.size + 1, 1, none⟩ = some (.slice (some ⟨b, off, none⟩) n c) := by
    have h := ((Box.new (w2.alloc (.cells #[.slice none 0 0] 26)) s (some ⟨b, off, none⟩) n c 31).on (on_alloc _ (.cells #[.int .i64 v] 2))).2
    simpa only [World.size_alloc] using h
  have hbV : (((w2.alloc (.cells #[.slice none 0 0] 26)).alloc (.cells #[.int .i64 s, .slice (some ⟨b, off, none⟩) n c] 31)).alloc (.cells #[.int .i64 v] 2)).cell? ⟨w2.heap.size + 1 + 1, 0, none⟩ = some (.int .i64 v) := by
    have h := (Boxed.new ((w2.alloc (.cells #[.slice none 0 0] 26)).alloc (.cells #[.int .i64 s, .slice (some ⟨b, off, none⟩) n c] 31)) 2 (.int .i64 v)).cell
    simpa only [World.size_alloc] using h
  have hB0 : Below w2.heap.size w2 (((w2.alloc (.cells #[.slice none 0 0] 26)).alloc (.cells #[.int .i64 s, .slice (some ⟨b, off, none⟩) n c] 31)).alloc (.cells #[.int .i64 v] 2)) := bfrom (bfrom (on_alloc _ _) (on_alloc _ _)) (on_alloc _ _)
  have bO := ((Boxed.new w2 26 (.slice none 0 0)).alloc (.cells #[.int .i64 s, .slice (some ⟨b, off, none⟩) n c] 31)).alloc (.cells #[.int .i64 v] 2)
  have hbb : b < w.heap.size := reads_lt Hr.out (by have := isG_len G.out; have := G.out.1.1.2.2.2; have := G.out.1.1.1; omega)
  have hal : ∀ k, (arU es v k).length ≤ k := arU_len es v
  refine wpIn_rangeFunc_ownG (n := 6) rfl (by omega) (gf := 88) (lb := #[.pointer (some ⟨w2.heap.size + 1, 0, none⟩), .pointer (some ⟨w2.heap.size + 1 + 1, 0, none⟩)]) rfl trivial (enters_of Try.func88 (by kernel_rfl) rfl)
    (around_stops 5 (by omega) (w2.heap.size + 1) (w2.heap.size + 1 + 1) w2.heap.size b off n c v es Hn.out hm (by omega) _ (by simp; omega) hbG hbV (by simp) (by simp) ((Hr.out.on HB2.out).on hB0)) kpB_t (kpB_b (by simp; omega) (by simp)) (Below.refl _ _) (fun _ => rfl)
    (fun (pre : List (Nat × Int)) W => ((∃ u, Boxed W w2.heap.size 26 u ∧ W.ownsRow (w2.heap.size + 1 + 1 + 1) 2 1 u pre.length (pre.map fun x => Value.int .i64 (x.1 : Int)) ∧ True) ∧ Below w2.heap.size w2 W) ∧ w2.heap.size + 1 + 1 + 1 ≤ W.heap.size)
    (fun _ _ _ => False)
    (OwnFrom.and (OwnFrom.and (Own.from (holdsRow_own (w2.heap.size + 1 + 1 + 1) w2.heap.size 26 2 1 (fun (pre : List (Nat × Int)) => pre.length) (fun (pre : List (Nat × Int)) => pre.map fun x => Value.int .i64 (x.1 : Int)) (fun _ _ => True)) _) (ownFrom_below (Nat.le_refl _) (by simp; omega))) (fun _ _ _ _ hs hg _ => Nat.le_trans hs hg.size))
    (fun _ _ _ _ _ hs _ _ => hs)
    ⟨⟨⟨_, bO, World.ownsRow_nil _ _ _ _, trivial⟩, hB0⟩, by simp⟩
    (fun x => { tmps := #[.agg #[.int .i64 s, .slice (some ⟨b, off, none⟩) n c], .int .i64 v, .pointer (some ⟨w.heap.size, 0, none⟩), undef, .slice none 0 0, .int .i64 0, .pointer (some ⟨w2.heap.size, 0, none⟩), .int .i64 (x.1 : Int), .agg #[.int .i64 s, .slice (some ⟨b, off, none⟩) n c], .bool true, .bool false, .int .i64 v, .pointer (some ⟨w.heap.size, 0, none⟩), .int .i64 s, .bool true, .bool false, .agg #[.int .i64 s, .slice (some ⟨b, off, none⟩) n c], .int .i64 v, .func (.func 88) #[] #[.pointer (some ⟨w2.heap.size + 1, 0, none⟩), .pointer (some ⟨w2.heap.size + 1 + 1, 0, none⟩)], .int .i64 (x.1 : Int), .int .i64 x.2, undef, undef, undef, undef, undef], defers := [] }) ?assign ?body ?done ?stop
  case assign =>
    intro l x W K hK
    gi_wp2
    exact hK
  case body =>
    rintro l pre x W ⟨⟨⟨u, hu, hrow, _⟩, hB⟩, hsz⟩ hlt
    have hc := hu.cell
    have hpl : pre.length < 31 := by have := hal es.length; have := Hn.out; unfold arF at hlt; omega
    gi_wp2_with (gi_at_builtin; refine wpListIn_append_own _ rfl _ _ 26 rfl (w2.heap.size + 1 + 1 + 1) 2 i0 (.int .i64 0) 1 8 Try.underlying26 Hi.out hz0 hz1 hz2 rfl (by decide) _ _ _ rfl (hrow.alloc _) ⟨W.heap.size, 0, none⟩ 1 1 [.int .i64 (x.1 : Int)] rfl rfl (cell_one_new _ _ _) (by simp [Value.oneCell']) (by unfold maxLen; omega) (by omega) (by simp; omega) ?_; intro v' w1 hown' hgrow _; obtain ⟨g', cap', rfl⟩ := ownsRow_succ hown'; have hu1 : Boxed w1 w2.heap.size 26 u := (hu.alloc _).kept hgrow (hu.not_row (by decide) hrow); have hc1 := hu1.cell; have hf1 := hu1.frozen)
    obtain ⟨_, hu2, _, hk2, hb2⟩ := hu.appended (by decide) (row_less hrow (by omega)) hB.size (Nat.le_refl _) (row_less hown' (by omega)) hgrow
    refine ⟨hk2.from _, ⟨hb2, ?_⟩, ⟨⟨_, hu2, ?_, trivial⟩, hB.trans hb2⟩, by have := hb2.size; omega⟩
    · have h1 := hgrow.block (w2.heap.size + 1 + 1) (by simp; omega) (fun h => by have := (hrow.lt _ h.symm).1; omega)
      exact (heap_setCell_other w1 ⟨w2.heap.size, 0, none⟩ _ _ (by show w2.heap.size + 1 + 1 ≠ w2.heap.size; omega)).trans (h1.trans (Below.heap_alloc W _ _ (by omega)))
    · have h2 := hown'.kept (grownBy_setCell' w1 w2.heap.size (.slice (some ⟨g', 0, none⟩) (pre.length + 1) cap')) (.inr (hu1.not_row (by decide) hown').symm)
      simpa using h2
  case done =>
    rintro D ys W hD rfl ⟨⟨⟨u, hu, hrow, _⟩, hB⟩, hsz⟩ hK
    have hc := hu.cell
    gi_wp2
    refine ⟨by simp, .inl ⟨_, _, rfl, run_takeDeferred hK, ?_⟩⟩
    have hrw := ownsRow_putObj hrow (.deferred none) hK rfl
    have hlen : (arF es v).length = (atF es v).length := by
      have h := congrArg List.length (arU_fst es v es.length)
      rw [List.length_map] at h
      exact h
    have hvals : ((arF es v).map fun x => Value.int .i64 (x.1 : Int)) = intVals (atF es v) := by
      unfold intVals atF arF
      rw [← arU_fst, List.map_map]
      rfl
    rw [hvals, hlen] at hrw
    obtain ⟨q, cap, rfl, hf⟩ := freshI_of hrw rfl
    exact ⟨_, results_tmp2 rfl _ _ _, q, cap, rfl, hf.less (by omega), (bfrom HB2.out hB).trans ((belowK_b (w := w2) (Nat.le_refl _) W D _ _ (by simp at hD; omega) hK rfl rfl).mono hz2s)⟩
  case stop =>
    rintro D c pre W _ _ h _
    exact h.elim

end Go.Proofs.Ytkcljjbjlhageaa
