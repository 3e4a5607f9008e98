/- ChainNumbers in the program: the loop over the pairs, and within its rounds the loop over the chains. -/
import Derived.Test.YtjkemganbfldpaaChqW
namespace Go.Proofs.Ytjkemganbfldpaa
open Go.RowKit Go.Shelf

attribute [local go_sem] Oper.semAt_some

theorem rowQ_less {w : World} {B B' : Nat} {e : TypeId} {sz n : Nat} {v : Value} {xs : List Value} (h : w.ownsRow B e sz v n xs) (hB : B' ≤ B) : w.ownsRow B' e sz v n xs := by
  refine ⟨h.1, ?_⟩
  rcases h.2 with hn | ⟨g, c, cur, hv, hb, r⟩
  · exact .inl hn
  · exact .inr ⟨g, c, cur, hv, Nat.le_trans hB hb, r⟩
theorem rowQ_on {w w' : World} {B : Nat} {e : TypeId} {sz n : Nat} {v : Value} {xs : List Value} (h : w.ownsRow B e sz v n xs) (hb : Below w.heap.size w w') : w'.ownsRow B e sz v n xs := by
  refine ⟨h.1, ?_⟩
  rcases h.2 with hn | ⟨g, c, cur, hv, hg, hc, r⟩
  · exact .inl hn
  · exact .inr ⟨g, c, cur, hv, hg, (hb.block g (Array.getElem?_eq_some_iff.1 hc).1).trans hc, r⟩
theorem boxQ_on {w w' : World} {B : Nat} {t : TypeId} {v : Value} (h : Boxed w B t v) (hb : Below w.heap.size w w') : Boxed w' B t v := (hb.block B h.lt).trans h
theorem boxQ_moved {X Y : World} {B g : Nat} {t : TypeId} {v : Value} (h : Boxed X B t v) (hm : Kept (fun i => i ≠ g) X Y) (hg : B ≠ g) : Boxed Y B t v := (hm.same B hg h.lt).trans h
theorem seesQ_putObj {W : World} {q : Option Addr} {xs : List Int} {l : Nat} {o o' : Obj} (h : SeesI W q xs) (hl : W.heap[l]? = some o) (ho : o.isCells = false) : SeesI (W.putObj l o') q xs := by
  rcases h with h | ⟨b, off, hq, hr⟩
  · exact .inl h
  · refine .inr ⟨b, off, hq, fun i hi => ?_⟩
    have h1 := hr i hi
    have hne : b ≠ l := fun e => by
      subst e
      unfold World.cell? at h1
      rw [hl] at h1
      cases o <;> simp_all [Obj.isCells]
    exact (World.cell?_of_block (w := W) (a := ⟨b, off + i, none⟩) (World.putObj_heap_other hne)).trans h1
theorem keeps_of_below {B : Nat} {W W' : World} (h : Below W.heap.size W W') : KeepsFrom B W W' := ⟨h.size, fun i _ _ hi _ => (h.block i (Array.getElem?_eq_some_iff.1 hi).1).trans hi⟩
theorem keptE_below {W W' : World} (h : Below W.heap.size W W') : KeptE W W' := ⟨h.size, fun i _ _ hi => h.block i (Array.getElem?_eq_some_iff.1 hi).1⟩
/-- A row of numbers that grows leaves rows of edges alone. -/
theorem keptE_grown {W W' : World} {B k : Nat} {v : Value} {xs : List Value} (hr : W.ownsRow B 2 1 v k xs) (hg : W.grownBy W' v.ownBlock) : KeptE W W' := ⟨hg.size, fun i cur fr hi => hg.block i (Array.getElem?_eq_some_iff.1 hi).1 (fun e => by
  rcases hr.2 with ⟨hn, _⟩ | ⟨g, c, cur', hv, hb, hc, _⟩
  · rw [hn] at e
    cases e
  · rw [hv] at e
    have e1 : i = g := Option.some.inj e
    subst e1
    rw [hi] at hc
    cases hc)⟩
theorem keptE_set {W : World} {B : Nat} {t : TypeId} {v u : Value} (h : Boxed W B t u) (ht : t ≠ 55) : KeptE W (W.setCell ⟨B, 0, none⟩ v) := ⟨by simp [World.setCell], fun i cur fr hi => heap_setCell_other W ⟨B, 0, none⟩ i v (fun e => by
  have e1 : i = B := e
  subst e1
  have h2 : W.heap[i]? = some (.cells #[u] t (0, 0)) := h
  rw [hi] at h2
  cases h2
  exact ht rfl)⟩
theorem pr_nat {i : Nat} (h : i < 3) : ∃ a b : Nat, prA i = a ∧ prB i = b ∧ a < b ∧ b < 3 := by
  rcases (by omega : i = 0 ∨ i = 1 ∨ i = 2) with rfl | rfl | rfl
  · exact ⟨0, 1, rfl, rfl, by omega, by omega⟩
  · exact ⟨0, 2, rfl, rfl, by omega, by omega⟩
  · exact ⟨1, 2, rfl, rfl, by omega, by omega⟩
theorem numsQ (es : List (Int × Int)) (cs : List Int) (k : Nat) : ((List.range k).map fun i => Value.int .i64 (chqN es cs (prA i) (prB i) : Int)) = intVals (numsC es cs k) := by
  unfold intVals numsC
  rw [List.map_map]
  rfl
/-- A box for the count and the four boxes of the range over chains. -/
theorem laid5 (W : World) (s a b : Int) (p pc : Option Addr) (n c m f0 : Nat) (u : Value) :
    ∃ w4, w4 = ((((W.alloc (.cells #[u] 2)).alloc (.cells #[.int .i64 s, .slice p n c] 31)).alloc (.cells #[.slice pc m f0] 25)).alloc (.cells #[.int .i64 a] 2)).alloc (.cells #[.int .i64 b] 2) ∧
      w4.heap.size = W.heap.size + 5 ∧ Below W.heap.size W w4 ∧ Boxed w4 W.heap.size 2 u ∧ w4.cell? ⟨W.heap.size + 1, 0, none⟩ = some (.int .i64 s) ∧ w4.cell? ⟨W.heap.size + 1, 1, none⟩ = some (.slice p n c) ∧
      w4.cell? ⟨W.heap.size + 1 + 1, 0, none⟩ = some (.slice pc m f0) ∧ w4.cell? ⟨W.heap.size + 1 + 1 + 1, 0, none⟩ = some (.int .i64 a) ∧ w4.cell? ⟨W.heap.size + 1 + 1 + 1 + 1, 0, none⟩ = some (.int .i64 b) := by
  refine ⟨_, rfl, by simp, bfrom (bfrom (bfrom (bfrom (on_alloc _ _) (on_alloc _ _)) (on_alloc _ _)) (on_alloc _ _)) (on_alloc _ _), ?_, ?_, ?_, ?_, ?_, ?_⟩
  · exact ((((Boxed.new W 2 u).alloc _).alloc _).alloc _).alloc _
  · have h := (((Box.new (W.alloc (.cells #[u] 2)) s p n c 31).on (on_alloc _ (.cells #[.slice pc m f0] 25))).on (on_alloc _ (.cells #[.int .i64 a] 2))).on (on_alloc _ (.cells #[.int .i64 b] 2))
    simp only [World.size_alloc] at h
    exact h.1
  · have h := (((Box.new (W.alloc (.cells #[u] 2)) s p n c 31).on (on_alloc _ (.cells #[.slice pc m f0] 25))).on (on_alloc _ (.cells #[.int .i64 a] 2))).on (on_alloc _ (.cells #[.int .i64 b] 2))
    simp only [World.size_alloc] at h
    exact h.2
  · exact (((boxed_at ((W.alloc (.cells #[u] 2)).alloc (.cells #[.int .i64 s, .slice p n c] 31)) (W.heap.size + 1 + 1) 25 (.slice pc m f0) (by simp)).alloc _).alloc _).cell
  · exact ((boxed_at (((W.alloc (.cells #[u] 2)).alloc (.cells #[.int .i64 s, .slice p n c] 31)).alloc (.cells #[.slice pc m f0] 25)) (W.heap.size + 1 + 1 + 1) 2 (.int .i64 a) (by simp)).alloc _).cell
  · exact (boxed_at _ (W.heap.size + 1 + 1 + 1 + 1) 2 (.int .i64 b) (by simp)).cell

set_option maxRecDepth 100000 in
set_option maxHeartbeats 4000000 in
theorem iNums_code (s q0 : Int) (p pc : Option Addr) (n c m d : Nat) (es : List (Int × Int)) (cs : List Int) (w : World) (hn : es.length = n) (hm : n ≤ 1048576) (hr : SeesE w p es) (hl : cs.length = m) (hm2 : m ≤ 1048576) (hrc : SeesI w pc cs) (hq : colsCode s es 1 (fun _ => cs) = q0) (hne : (q0 != 0) = true) :
    Calls Try.prog 8 #[.agg #[.int .i64 s, .slice p n c], .slice pc m d] w fun e' w' => e' = .returned (.tuple #[.slice none 0 0, .int .i64 q0]) ∧ Below w.heap.size w w' := by
  have Hn := hid hn
  have Hr := hid hr
  have Hl := hid hl
  have Hm2 := hid hm2
  have Hrc := hid hrc
  have HQ := hid hq
  clear hn hr hl hm2 hrc hq
  go_enter Try.func8, Try.ntmps8
  go_wp2_with fail
  refine (iCode_any _ _ _ _ _ _ _ _ es _ _ _ _ _ Hn.out hm (((Hr.out.on (on_alloc _ _)).on (on_alloc _ _)).on (on_alloc _ _)) (by omega) (rows_one (by simp) Hl.out Hm2.out ((Hrc.out.on (on_alloc _ _)).on (on_alloc _ _)))).mono ?_
  rw [HQ.out]
  rintro e w2 ⟨rfl, hb2⟩
  have hB2 := bfrom (w := w) (by go_grown) hb2
  go_wp2
  go_ret2
  exact ⟨rfl, hB2⟩

set_option maxRecDepth 100000 in
set_option maxHeartbeats 16000000 in
theorem iNums_yes (s : Int) (b off n c cb co m f0 : Nat) (es : List (Int × Int)) (cs : List Int) (w : World) (hn : es.length = n) (hr : ReadsE w b off es) (hl : cs.length = m) (hrc : ReadsI w cb co cs) (g : IsG s es) (gc : isColP es cs) :
    Calls Try.prog 8 #[.agg #[.int .i64 s, .slice (some ⟨b, off, none⟩) n c], .slice (some ⟨cb, co, none⟩) m f0] w fun e' w' => ∃ q cap, e' = .returned (.tuple #[.slice q 3 cap, .int .i64 0]) ∧ FreshI w.heap.size w' q 3 cap (numsC es cs 3) ∧ Below w.heap.size w w' := by
  obtain rfl : m = n := by rw [← hl, ← hn]; exact gc.1
  have hn30 : m ≤ 30 := by have := isG_len g; omega
  have hn1 : 0 < m := by have h1 := g.1.1.1; have h2 := g.1.1.2.2.2; omega
  have hq : colsCode s es 1 (fun _ => cs) = 0 := by unfold colsCode; rw [if_pos g, if_pos (fun _ _ => gc)]
  have hcb : cb < w.heap.size := hrc.lt (by omega)
  have hbb : b < w.heap.size := reads_lt hr (by omega)
  have Hn := hid hn
  have Hr := hid hr
  have Hl := hid hl
  have Hrc := hid hrc
  have G := hid g
  have Gc := hid gc
  have HQ := hid hq
  obtain ⟨i0, hi, hz0, hz1, hz2⟩ := info_parts infoInt
  have Hi := hid hi
  clear hn hr hl hrc g gc hq hi
  refine (callsIn_wide (n := 6)).1 ?_
  refine callsIn_of_wp_marks Try.func8 rfl trivial ?_ rfl
  simp only [Try.ntmps8, List.size_toArray, List.length_cons, List.length_nil, Nat.reduceAdd, Nat.reduceSub, Array.replicate_succ, Array.replicate_zero, List.push_toArray, List.append_toArray, List.nil_append, List.cons_append]
  gi_wp2_with (refine ⟨trivial, ?_⟩; gi_at_call 18; refine (callsIn_wide.2 (iCode_any _ _ _ _ _ _ _ _ es _ _ _ _ _ Hn.out (by omega) (((SeesE.on (.inr ⟨b, off, rfl, Hr.out⟩) (on_alloc _ _)).on (on_alloc _ _)).on (on_alloc _ _)) (by omega) (rows_one (by simp) Hl.out (by omega) ((SeesI.on (.inr ⟨cb, co, rfl, Hrc.out⟩) (on_alloc _ _)).on (on_alloc _ _))))).mono ?_; rw [HQ.out]; rintro e w2 ⟨rfl, hb2⟩)
  have HB2 := hid (bfrom (w := w) (bfrom (bfrom (on_alloc _ _) (on_alloc _ _)) (on_alloc _ _)) hb2)
  have HX2 := hid (show Box w2 w.heap.size s (some ⟨b, off, none⟩) m c from (((Box.new w s (some ⟨b, off, none⟩) m c 31).on (on_alloc _ _)).on (on_alloc _ _)).on hb2)
  have HC2 := hid (show Boxed w2 (w.heap.size + 1) 25 (.slice (some ⟨cb, co, none⟩) m f0) from boxQ_on ((boxed_at _ _ _ _ (by simp)).alloc _) hb2)
  have hs2 := HB2.out.size
  have hc2l := HC2.out.lt
  clear hb2
  gi_wp2
  have bO := Boxed.new w2 25 (.slice none 0 0)
  refine rangeFunc_movesH (n := 6) rfl (by omega) (gf := 19) (lb := #[]) rfl trivial (enters_of Try.func19 (by kernel_rfl) rfl) (A := w2.heap.size + 3) (by simp)
    (pairs_moves 4 (w2.heap.size + 3) _)
    (fun h k => keptE_t h k) (fun W l o o' h1 h2 hl ho => keptE_put hl ho)
    (fun Y Z i o h h1 h2 ho => (h.block i (Array.getElem?_eq_some_iff.1 ho).1).trans ho) (fun Y Z h => h.size) (fun x W l o o' h _ _ hl ho => h) (Below.refl _ _) (fun _ => rfl)
    (fun (pre : List Nat) W => (∃ u, Boxed W w2.heap.size 25 u ∧ W.ownsRow (w2.heap.size + 3) 2 1 u pre.length (pre.map fun i => Value.int .i64 (chqN es cs (prA i) (prB i) : Int)) ∧ True) ∧ Below w2.heap.size w2 W)
    (fun _ _ _ => False)
    (OwnFrom.and (Own.from (holdsRow_own (w2.heap.size + 3) w2.heap.size 25 2 1 (fun (pre : List Nat) => pre.length) (fun (pre : List Nat) => pre.map fun i => Value.int .i64 (chqN es cs (prA i) (prB i) : Int)) (fun _ _ => True)) _) (ownFrom_below (Nat.le_refl _) (by simp)))
    (fun _ _ _ _ _ hs _ _ => hs)
    (fun s Y Z h hm => by
      obtain ⟨⟨u, hu, hrow, _⟩, hB⟩ := h
      exact ⟨⟨u, boxQ_on hu hm, rowQ_on hrow hm, trivial⟩, hB.trans (hm.mono hB.size)⟩)
    (fun _ _ _ _ h _ => h)
    ⟨⟨_, bO, World.ownsRow_nil _ _ _ _, trivial⟩, on_alloc _ _⟩
    ?a1 ?assign ?body ?done ?stop
  case assign =>
    intro l x W K hK
    gi_wp2
    exact hK
  case body =>
    rintro l pre i W hl1 hl2 ⟨r, hr⟩ ⟨⟨u, hu, hrow, _⟩, hB⟩ hX hA hlt
    obtain ⟨pa, pb, hpa, hpb, hab, hb3⟩ := pr_nat hX
    have hWs := hB.size
    have HU := hid hu
    have HRow := hid hrow
    have HBW := hid hB
    have HRr := hid hr
    have HPA := hid hpa
    have HPB := hid hpb
    have HXW := HX2.out.on (bfrom (Below.refl _ _) hB)
    have hx1 := HXW.1
    have hx2 := HXW.2
    have hxl := HXW.lt
    have hcc := (boxQ_on HC2.out hB).cell
    have hccl := (boxQ_on HC2.out hB).lt
    rw [hpa, hpb]
    clear hu hrow hr hpa hpb hX HXW
    gi_wp2_with (refine ⟨trivial, ?_⟩; gi_at_call 20; refine (callsIn_wide.2 (iChainsWith_func s pa pb _ _ _ _ _ _ _)).mono ?_; rintro e w' ⟨rfl, rfl⟩)
    obtain ⟨w4, hw4, hz4, hb4, hq4, hs4, hg4, hc4, ha4, hbb4⟩ := laid5 W s pa pb (some ⟨b, off, none⟩) (some ⟨cb, co, none⟩) m c m f0 (.int .i64 0)
    rw [← hw4]
    clear hw4 hx1 hx2 hxl hcc hccl
    have HBw4 := hid (bfrom (bfrom HB2.out HBW.out) hb4)
    refine rangeFunc_movesN (n := 4) (l₀ := l) (r₀ := r) rfl ((hb4.block l (Array.getElem?_eq_some_iff.1 HRr.out).1).trans HRr.out) (by omega) (gf := 30) (lb := #[.pointer (some ⟨W.heap.size + 1 + 1, 0, none⟩), .pointer (some ⟨W.heap.size + 1 + 1 + 1, 0, none⟩), .pointer (some ⟨W.heap.size + 1, 0, none⟩), .pointer (some ⟨W.heap.size + 1 + 1 + 1 + 1, 0, none⟩)]) rfl trivial (enters_of Try.func30 (by kernel_rfl) rfl) (A := W.heap.size + 6) (by omega)
      (chains_moves 2 W.heap.size (W.heap.size + 6) (W.heap.size + 1 + 1) (W.heap.size + 1 + 1 + 1) (W.heap.size + 1) (W.heap.size + 1 + 1 + 1 + 1) b off m c cb co f0 s pa pb es cs w4 (by omega) (by omega) (by omega) (by omega) (by omega) (by omega) Hn.out (by omega) (by omega) (Hr.out.on HBw4.out) Hl.out (Hrc.out.on HBw4.out) G.out Gc.out hab hb3 hc4 ha4 hs4 hg4 hbb4)
      (fun h k => h.trans k) (fun V l o o' h1 h2 hl ho => (Kept.refl _ V).row (grownBy_putObj' V l o') (fun r e h => by cases e; omega))
      (fun Y Z i o h h1 h2 ho => (h.same i (by omega) (Array.getElem?_eq_some_iff.1 ho).1).trans ho) (fun Y Z h => h.size) (fun x V l o o' h _ _ hl ho => ⟨seesQ_putObj h.1 hl ho, h.2⟩) (Below.refl _ _) (fun _ => rfl)
      (fun (pre' : List ChX) V => Boxed V W.heap.size 2 (.int .i64 (pre'.length : Int)) ∧ Below W.heap.size W V)
      (fun _ _ _ => False)
      (OwnFrom.and (Own.from (boxed_own W.heap.size 2 (fun (pre' : List ChX) => Value.int .i64 (pre'.length : Int))) _) (ownFrom_below (Nat.le_refl _) (by omega)))
      (fun _ _ _ _ _ hs _ _ => hs)
      (fun s Y Z h hm => ⟨boxQ_moved h.1 hm (by omega), h.2.trans (hm.below (fun i hi => by omega) h.2.size)⟩)
      (fun _ _ _ _ h _ => h)
      ⟨hq4, hb4⟩
      ?a2 ?assign2 ?body2 ?done2 ?stop2
    case assign2 =>
      intro l' x V K hK
      gi_wp2
      exact hK
    case body2 =>
      rintro l' pre' x V hl1' hl2' _ ⟨hu', hB'⟩ hX' hA' hlt'
      have hpl : pre'.length < 31 := by have := chqE_len (es := es) (cs := cs) pa pb m; omega
      have hc' := hu'.cell
      have hf' := hu'.frozen
      have hul := hu'.lt
      have HS := hid (Boxed.set (.int .i64 ((pre'.length : Int) + 1)) hu')
      gi_wp2
      refine ⟨⟨by simp [World.setCell], fun i o hB hi ho => (heap_setCell_other V ⟨W.heap.size, 0, none⟩ i _ (by show i ≠ W.heap.size; omega)).trans hi⟩, (Kept.refl _ V).set (by simp only; omega) _, ?_, hB'.setCell (Nat.le_refl _) _⟩
      have h := HS.out
      simpa using h
    case done2 =>
      rintro ys V hS ⟨hu', hB'⟩
      have hlen : ys.length = chqN es cs pa pb := by rw [len_of_mapQ hS, chqC_len]; unfold chqN; rw [Hn.out]
      rw [hlen] at hu'
      obtain ⟨K, hK⟩ : ∃ K : Int, (chqN es cs pa pb : Int) = K := ⟨_, rfl⟩
      rw [hK] at hu'
      have HKK := hid (show (chqN es cs (prA i) (prB i) : Int) = K by rw [HPA.out, HPB.out]; exact hK)
      have hcN := hu'.cell
      have hNl := hu'.lt
      have hV := hB'.size
      have HuV := hid (boxQ_on HU.out hB')
      have HRowV := hid (rowQ_on HRow.out hB')
      have hc := HuV.out.cell
      have hnl := HuV.out.lt
      have HBV := hid hB'
      clear hu' hB' hlen hK hS
      gi_wp2_with (gi_at_builtin; refine wpListIn_append_own _ rfl _ _ 25 rfl (w2.heap.size + 3) 2 i0 (.int .i64 0) 1 8 Try.underlying25 Hi.out hz0 hz1 hz2 rfl (by decide) _ _ _ rfl (HRowV.out.alloc _) ⟨V.heap.size, 0, none⟩ 1 1 [.int .i64 K] rfl rfl (cell_one_new _ _ _) (by simp [Value.oneCell']) (by unfold maxLen; omega) (by omega) (by simp; omega) ?_; intro v' w1 hown' hgrow _; obtain ⟨g', cap', rfl⟩ := ownsRow_succ hown'; have hu1 : Boxed w1 w2.heap.size 25 u := (HuV.out.alloc _).kept hgrow (HuV.out.not_row (by decide) HRowV.out); have hc1 := hu1.cell; have hf1 := hu1.frozen)
      obtain ⟨_, hu2, _, hk2, hb2⟩ := HuV.out.appended (by decide) (rowQ_less HRowV.out (by omega)) (show w2.heap.size ≤ V.heap.size by omega) (Nat.le_refl _) (rowQ_less hown' (by omega)) hgrow
      refine ⟨(keeps_of_below HBV.out).trans (hk2.from _), keptE_t (keptE_below HBV.out) (keptE_t (keptE_below (on_alloc V _)) (keptE_t (keptE_grown (HRowV.out.alloc _) hgrow) (keptE_set hu1 (by decide)))), ⟨⟨_, hu2, ?_, trivial⟩, (HBW.out.trans (HBV.out.mono hWs)).trans hb2⟩⟩
      have h2 := hown'.kept (grownBy_setCell' w1 w2.heap.size (.slice (some ⟨g', 0, none⟩) (pre.length + 1) cap')) (.inr (hu1.not_row (by decide) hown').symm)
      simpa [HKK.out] using h2
    case stop2 =>
      rintro c' pre' V _ h
      exact h.elim
  case done =>
    rintro D ys W hD hS ⟨⟨u, hu, hrow, _⟩, hB⟩ hK
    subst hS
    rw [numsQ] at hrow
    have hrow3 : W.ownsRow (w2.heap.size + 3) 2 1 u 3 (intVals (numsC es cs 3)) := hrow
    obtain ⟨gS, capS, rfl⟩ : ∃ gS capS, u = .slice (some ⟨gS, 0, none⟩) 3 capS := ownsRow_succ hrow3
    obtain ⟨hO, hgS⟩ := OwnI.of_row hrow3 (numsC_len _ _ _)
    have hc := hu.cell
    have HO := hid hO
    have HBW := hid hB
    clear hrow hrow3 hO
    gi_wp2
    refine ⟨by simp, .inl ⟨_, _, rfl, run_takeDeferred hK, ?_⟩⟩
    have hf := FreshI.of_own (n := 3) (B := w.heap.size) HO.out (numsC_len _ _ _) (by omega)
    have hrw := ownsRow_putObj hf.1 (.deferred none) hK rfl
    have hBw : Below w.heap.size w W := bfrom HB2.out HBW.out
    exact ⟨_, results_tmp2 rfl _ _ _, some ⟨gS, 0, none⟩, capS, rfl, ⟨hrw, numsC_len _ _ _⟩, hBw.grown (grownBy_putObj' W D _) hBw.size (fun k e => by have e1 : D = k := Option.some.inj e; simp at hD; omega)⟩
  case stop =>
    rintro D c pre W _ _ h _
    exact h.elim

theorem iChainNumbers_any (s : Int) (p : Option Addr) (n c : Nat) (es : List (Int × Int)) (pc : Option Addr) (m d : Nat) (cs : List Int) (w : World) (hm : n ≤ 1048576) (hn : es.length = n) (hr : SeesE w p es) (hm2 : m ≤ 1048576) (hl : cs.length = m) (hrc : SeesI w pc cs) :
    Calls Try.prog 8 #[.agg #[.int .i64 s, .slice p n c], .slice pc m d] w fun e' w' => ∃ q cap, e' = .returned (.tuple #[.slice q (fChainNumbers s es cs).1.length cap, .int .i64 (fChainNumbers s es cs).2]) ∧ FreshI w.heap.size w' q (fChainNumbers s es cs).1.length cap (fChainNumbers s es cs).1 ∧ Below w.heap.size w w' := by
  unfold fChainNumbers
  by_cases g : IsG s es
  · rw [if_pos g]
    by_cases gc : isColP es cs
    · rw [if_pos gc]
      obtain ⟨b, off, rfl, rd⟩ := isG_sees g hr
      obtain ⟨cb, co, rfl, rc⟩ := cols_seesQ g gc hrc
      dsimp only
      rw [numsC_len]
      exact iNums_yes s b off n c cb co m d es cs w hn rd hl rc g gc
    · rw [if_neg gc]
      exact (iNums_code s 2 p pc n c m d es cs w hn hm hr hl hm2 hrc (by unfold colsCode; rw [if_pos g, if_neg (fun h => gc (h 0 (by omega)))]) rfl).mono fun e w' ⟨he, hb⟩ => ⟨none, 0, he, FreshI.nil _ _, hb⟩
  · rw [if_neg g]
    exact (iNums_code s 1 p pc n c m d es cs w hn hm hr hl hm2 hrc (by unfold colsCode; rw [if_neg g]) rfl).mono fun e w' ⟨he, hb⟩ => ⟨none, 0, he, FreshI.nil _ _, hb⟩

end Go.Proofs.Ytjkemganbfldpaa
