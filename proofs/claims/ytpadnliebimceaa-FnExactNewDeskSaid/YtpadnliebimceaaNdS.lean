/- NewDesk in the model. -/
import Derived.Test.YtpadnliebimceaaNdA
import Derived.Test.YtpadnliebimceaaDeskL
import Derived.Test.YtpadnliebimceaaSpecF
import Derived.Test.YtpadnliebimceaaClone
import Derived.Deep.AppendLies
import Derived.Deep.RegionHeld3
import Derived.Deep.RegionLaw
import Derived.BigRegion
namespace Go.Proofs.Ytpadnliebimceaa
open Go.RowKit

/-- An append at a step that is wanted, whatever its guard. -/
theorem step_append_wantedD {P : Program} {w : World} {ops : Array Oper} {o : Oper} {a : Act} {K : Act → World → Prop} {Q : Exit → Act → World → Prop} {E : Prop} (hw : Region.wanted o (yielded ops a.tmps) = true) (s x : Operand) (t : TypeId)
    (ho : o.op = .call { callee := .builtin .append, args := #[s, x], argTypes := #[t, t] })
    (base : Nat) (e : TypeId) (i : TypeInfo) (z : Value) (size bytes : Nat) (ht : P.underlying t = some (.slice e)) (hi : P.info? e = some i) (hz : i.zero = some z)
    (hsize : i.size = size) (hby : i.bytes = bytes) (hzs : z.cells.size = size) (hsz : 0 < size)
    (v : Value) (n : Nat) (xs : List Value) (hs : a.eval s = v) (hown : w.ownsRow base e size v n xs)
    (ad : Addr) (m c : Nat) (news : List Value) (hx : a.eval x = .slice (some ad) m c) (hl : news.length = m * size) (hnews : ∀ j u, news[j]? = some u → w.cell? (ad.add j) = some u) (h1 : ∀ u ∈ news, u.oneCell' = true)
    (hm : 0 < m) (h63 : n + m ≤ maxLen) (hbytes : (n + m) * bytes ≤ 140737488355328) (hbase : base ≤ w.heap.size)
    (h : ∀ g cap w', w'.ownsRow base e size (.slice (some ⟨g, 0, none⟩) (n + m) cap) (n + m) (xs ++ news) → w.grownBy w' v.ownBlock → (v.ownBlock = some g ∨ g = w.heap.size) → g < w'.heap.size → K (a.put o.dst (.slice (some ⟨g, 0, none⟩) (n + m) cap)) w') :
    if Region.wanted o (yielded ops a.tmps) = true then Oper.wp P o a w K Q else E := by
  rw [if_pos hw]
  exact wp_append_lies w s x t ho base e i z size bytes ht hi hz hsize hby hzs hsz v n xs hs hown ad m c news hx hl hnews h1 hm h63 hbytes hbase w.heap.size rfl h

theorem row_madeE (w : World) (B A : Nat) (hA : A = w.heap.size) (hB : B ≤ w.heap.size) : (w.alloc (.cells #[] 85)).ownsRow B 85 2 (.slice (some ⟨A, 0, none⟩) 0 0) 0 [] := by
  subst hA
  exact World.ownsRow_made (base := B) (e := 85) (size := 2) w #[] 0 hB (Nat.zero_le _) rfl
/-- What is known behind the append of a region: the box and the desk as they were, the row of its own. -/
theorem app_facts {w W0 W w6 : World} {b off n c g6 cap6 : Nat} {s : Int} {es : List (Int × Int)} {row : Option Nat} (hl1 : w.heap.size + 1 < W0.heap.size) (hX : Box W0 w.heap.size s (some ⟨b, off, none⟩) n c)
    (hZ : Box4 W0 (w.heap.size + 1) 0 none 0 0 none 0 0 none 0 0) (hZf : ∀ o, W0.frozen? ⟨w.heap.size + 1, o, none⟩ = false) (hBW : Below w.heap.size w W0) (hn : es.length = n) (hA : Below W0.heap.size W0 W)
    (ho6 : w6.ownsRow W0.heap.size 85 2 (.slice (some ⟨g6, 0, none⟩) (0 + n) cap6) (0 + n) ([] ++ edgeVals es)) (hg6 : W.grownBy w6 row) (hrow : ∀ k, row = some k → W0.heap.size ≤ k) :
    w6.cell? ⟨w.heap.size, 0, none⟩ = some (.int .i64 s) ∧ w6.cell? ⟨w.heap.size, 1, none⟩ = some (.slice (some ⟨b, off, none⟩) n c) ∧ w6.cell? ⟨w.heap.size + 1, 0, none⟩ = some (.int .i64 0) ∧ w6.cell? ⟨w.heap.size + 1, 1, none⟩ = some (.slice none 0 0) ∧ w6.cell? ⟨w.heap.size + 1, 2, none⟩ = some (.slice none 0 0) ∧ w6.cell? ⟨w.heap.size + 1, 3, none⟩ = some (.slice none 0 0) ∧
    w6.frozen? ⟨w.heap.size + 1, 0, none⟩ = false ∧ w6.frozen? ⟨w.heap.size + 1, 1, none⟩ = false ∧ w6.frozen? ⟨w.heap.size + 1, 2, none⟩ = false ∧ w6.frozen? ⟨w.heap.size + 1, 3, none⟩ = false ∧
    w.heap.size + 1 < w6.heap.size ∧ w.heap.size < w6.heap.size ∧ w.heap.size + 1 ≤ w6.heap.size ∧ w.heap.size ≤ w6.heap.size ∧ Hid (Below w.heap.size w w6) ∧ Hid (OwnE w6 g6 cap6 es ∧ W0.heap.size ≤ g6) := by
  have hb6 : Below W0.heap.size W0 w6 := hA.grown hg6 hA.size (fun k hk => hrow k hk)
  have hk6 := bcells hb6
  have hl0 : w.heap.size < W0.heap.size := by omega
  have hz := hb6.size
  rw [Nat.zero_add, List.nil_append] at ho6
  exact ⟨(hk6.1 _ 0 hl0).trans hX.1, (hk6.1 _ 1 hl0).trans hX.2, (hk6.1 _ 0 hl1).trans hZ.1, (hk6.1 _ 1 hl1).trans hZ.2.1, (hk6.1 _ 2 hl1).trans hZ.2.2.1, (hk6.1 _ 3 hl1).trans hZ.2.2.2, (hk6.2 _ 0 hl1).trans (hZf 0), (hk6.2 _ 1 hl1).trans (hZf 1), (hk6.2 _ 2 hl1).trans (hZf 2), (hk6.2 _ 3 hl1).trans (hZf 3), by omega, by omega, by omega, by omega, hid (bfrom hBW hb6), hid (OwnE.of_row ho6 hn)⟩
theorem kD_drew {w : World} {a : Addr} {v : Value} (h : w.cell? a = some v) : w.drew.cell? a = some v := h
theorem kD_alloc {w : World} {a : Addr} {v : Value} (o : Obj) (h : w.cell? a = some v) : (w.alloc o).cell? a = some v := Lib.cell?_alloc_some o h
theorem kD_far {w : World} {a p : Addr} {u v : Value} (hne : a.block ≠ p.block) (h : w.cell? a = some v) : (w.setCell p u).cell? a = some v := (World.cell?_of_block (w := w) (heap_setCell_other w p a.block u hne)).trans h
theorem heap_alloc_newB (w : World) (o : Obj) (B : Nat) (hB : B = w.heap.size) : (w.alloc o).heap[B]? = some o := by subst hB; exact heap_alloc_new w o

set_option maxRecDepth 100000 in
set_option maxHeartbeats 4000000 in
theorem sNamed_k4 (w : World) :
    Calls Try.prog 79 #[.string ⟨#[107, 52]⟩] w fun e w' => ∃ q cap, e = .returned (.tuple #[.agg #[.int .i64 4, .slice q 6 cap], .bool true]) ∧ FreshE w.heap.size w' q 6 cap (k4L 6) ∧ Below w.heap.size w w' := by
  go_enter Try.func79, Try.ntmps79
  go_wp2_with fail
  refine (sMade_any 4 (w.heap.size + 1 + 1) 0 6 6 (k4L 6) _ (by omega) (k4L_len 6) ?_).mono ?_
  · intro i hi
    rw [k4L_len] at hi
    rcases (by omega : i = 0 ∨ i = 1 ∨ i = 2 ∨ i = 3 ∨ i = 4 ∨ i = 5) with rfl | rfl | rfl | rfl | rfl | rfl <;> exact ⟨cell_of_row _ _ _ _ _ _ (heap_alloc_newB _ _ _ (by simp)), cell_of_row _ _ _ _ _ _ (heap_alloc_newB _ _ _ (by simp))⟩
  rw [sortE_of_inOrder k4_is.2.2]
  rintro e w2 ⟨q, cap, rfl, hf2, hb2⟩
  have HF2 := hid hf2
  have HB2 := hid (bfrom (w := w) (bfrom (bfrom (on_alloc _ _) (on_alloc _ _)) (on_alloc _ _)) hb2)
  have HX2 : Hid (Box w2 w.heap.size 0 none 0 0) := hid ((((Box.new w 0 none 0 0 24).on (on_alloc _ _)).on (on_alloc _ _)).on hb2)
  have hfr : ∀ o, w2.frozen? ⟨w.heap.size, o, none⟩ = false := fun o => ((bcells hb2).2 _ _ (by simp only [World.size_alloc]; omega)).trans (((bcells (on_alloc _ _)).2 _ _ (by simp only [World.size_alloc]; omega)).trans (((bcells (on_alloc _ _)).2 _ _ (by simp only [World.size_alloc]; omega)).trans (free_cellD _ _ _ _ _ rfl)))
  have hfa := hfr 0
  have hfb := hfr 1
  have hx2 := HX2.out.1
  have hy2 := HX2.out.2
  have hl2 := HX2.out.lt
  clear hf2 hb2 hfr
  go_wp2_with fail
  refine bodyPost_ret (v := .tuple #[.agg #[.int .i64 4, .slice q 6 cap], .bool true]) (by simp [results, Try.results79, go_sem, hx2, hy2]) rfl ⟨q, cap, rfl, ?_, ?_⟩
  · exact ((HF2.out.far (by simp only [World.size_alloc]; omega) _).far (by simp only [World.size_alloc]; omega) _).less (by simp only [World.size_alloc]; omega)
  · have h := HB2.out; go_grown

set_option maxRecDepth 100000 in
set_option maxHeartbeats 32000000 in
theorem sFresh_k (s : Int) (b off n c : Nat) (es : List (Int × Int)) (w : World) (hn : es.length = n) (h1 : 1 ≤ n) (hn2 : n ≤ 100) (hr : ReadsE w b off es) :
    Calls Try.prog 80 #[.agg #[.int .i64 s, .slice (some ⟨b, off, none⟩) n c]] w fun e w' => ∃ q cap p1 p2, e = .returned (.agg #[.int .i64 s, .slice q n cap, .slice p1 0 0, .slice p2 0 0]) ∧ FreshE w.heap.size w' q n cap es ∧ Below w.heap.size w w' := by
  have Hn := hid hn
  have Hr := hid hr
  have hbl : b < w.heap.size := reads_lt hr (by omega)
  obtain ⟨i0, hi, hz0, hz1, hz2⟩ := info_parts infoEdge
  have Hi := hid hi
  clear hn hr hi
  go_enter Try.func80, Try.ntmps80
  go_upto_region 1 with fail
  obtain ⟨W0, hW0⟩ : ∃ W0, W0 = ((w.alloc (.cells #[.int .i64 s, .slice (some ⟨b, off, none⟩) n c] 24)).alloc (.cells #[.int .i64 0, .slice none 0 0, .slice none 0 0, .slice none 0 0] 27)) := ⟨_, rfl⟩
  rw [← hW0]
  have hZ : Box4 W0 (w.heap.size + 1) 0 none 0 0 none 0 0 none 0 0 := by
    rw [hW0]
    have h := Box4.new (w.alloc (.cells #[.int .i64 s, .slice (some ⟨b, off, none⟩) n c] 24)) 0 none 0 0 none 0 0 none 0 0 27
    simpa only [World.size_alloc] using h
  have hZf : ∀ o, W0.frozen? ⟨w.heap.size + 1, o, none⟩ = false := fun o => by rw [hW0]; exact free_cellD _ _ _ _ _ (by simp)
  have hX : Box W0 w.heap.size s (some ⟨b, off, none⟩) n c := by rw [hW0]; exact (Box.new w s (some ⟨b, off, none⟩) n c 24).on (on_alloc _ _)
  have hBW : Below w.heap.size w W0 := by rw [hW0]; exact bfrom (on_alloc _ _) (on_alloc _ _)
  have hl0 : w.heap.size < W0.heap.size := by rw [hW0]; simp only [World.size_alloc]; omega
  have hl1 : w.heap.size + 1 < W0.heap.size := by rw [hW0]; simp only [World.size_alloc]; omega
  have HZ := hid (And.intro hZ hZf)
  have HX0 := hid hX
  have HBW := hid hBW
  have HRW := hid (Hr.out.on hBW)
  have hxa := hX.1
  have hxb := hX.2
  clear hZ hZf hX hBW hW0
  go_region_held3 (fun w' => w'.cell? ⟨w.heap.size, 0, none⟩ = some (.int .i64 s) ∧ w'.cell? ⟨w.heap.size, 1, none⟩ = some (.slice (some ⟨b, off, none⟩) n c)) (first | (with_reducible exact ⟨hxa6, hxb6⟩) | (refine ⟨?_, ?_⟩ <;> (repeat (first | with_reducible exact hxa | with_reducible exact hxb | with_reducible exact hxa6 | with_reducible exact hxb6 | with_reducible refine kD_drew ?_ | with_reducible refine kD_alloc _ ?_ | with_reducible refine kD_far (by simp) ?_)))) ((refine step_append_wantedD (by rfl) (.tmp 5) (.tmp 7) 22 (by rfl) W0.heap.size 85 i0 (.agg #[.int .i64 0, .int .i64 0]) 2 16 Try.underlying22 Hi.out hz0 hz1 hz2 rfl (by decide) _ 0 [] (by rfl) (by first | exact row_madeE _ _ _ (by simp) (by first | (simp; done) | (simp; omega)) | exact World.ownsRow.alloc (row_madeE _ _ _ (by simp) (by first | (simp; done) | (simp; omega))) _ | exact World.ownsRow.alloc (World.ownsRow.alloc (row_madeE _ _ _ (by simp) (by first | (simp; done) | (simp; omega))) _) _) ⟨b, off, none⟩ n c (edgeVals es) (by rfl) (by rw [edgeVals_length, Hn.out]) (fun j u hj => by rw [Addr.add_lit]; exact reads_vals (HRW.out.on (by go_grown)) j u hj) (vals_one es) (by omega) (by unfold maxLen; omega) (by omega) (by first | (simp; done) | (simp; omega)) ?_; intro g6 cap6 w6 ho6 hg6 hlie6 hgl6; obtain ⟨hxa6, hxb6, hka, hkb, hkc, hkd, hfa, hfb, hfc, hfd, hw6, hw6a, hw6b, hw6c, HB6, HO6⟩ := app_facts (W0 := W0) hl1 HX0.out HZ.out.1 HZ.out.2 HBW.out Hn.out (by go_grown) ho6 hg6 (fun k hk => by have e := Option.some.inj hk; simp at e; omega); clear ho6 hg6 hlie6))
  all_goals (
    have HB6w := HB6.out
    go_wp2
    refine bodyPost_ret (v := .agg #[.int .i64 s, .slice (some ⟨g6, 0, none⟩) n cap6, .slice _ 0 0, .slice _ 0 0]) (by first | (simp [results, Try.results80, go_sem, hka, hkb, hkc, hkd, hw6, hw6a]; exact ⟨rfl, rfl⟩) | (simp [results, Try.results80, go_sem, hka, hkb, hkc, hkd, hw6]; exact ⟨rfl, rfl⟩) | (simp [results, Try.results80, go_sem, hka, hkb, hkc, hkd]; exact ⟨rfl, rfl⟩) | (simp [results, Try.results80, go_sem, hka, hkb, hkc, hkd, hw6, hw6a, hw6c]; exact ⟨rfl, rfl⟩)) rfl ⟨some ⟨g6, 0, none⟩, cap6, _, _, rfl, ?_, ?_⟩
    · refine FreshE.of_own (g := g6) ?_ Hn.out (by have := HO6.out.2; omega)
      repeat (first | with_reducible exact HO6.out.1 | with_reducible refine OwnE.alloc ?_ _ | with_reducible refine OwnE.far ?_ (by have := HO6.out.2; simp; omega) _)
    · go_grown)

end Go.Proofs.Ytpadnliebimceaa
