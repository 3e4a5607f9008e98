/- Graphs with vertices taken out, in the model: the edges that are left and the new numbers. -/
import Derived.Test.YtfdlhdgmbjdhbaaStrA
import Derived.Test.YtfdlhdgmbjdhbaaSpecAt
import Derived.Test.YtfdlhdgmbjdhbaaSpecD
import Derived.Deep.AppendLies
import Derived.Deep.RegionHeld3
import Derived.BigRegion

/- The other ends of the edges at a vertex, without one of the edges, in the model. -/
namespace Go.Proofs.Ytfdlhdgmbjdhbaa
open Go.RowKit Go.Lib

/-- The k-th edge at a vertex. -/
def nthO (es : List (Int × Int)) (v : Int) (k : Nat) : Nat := (onL es v).getD k 0
/-- The other ends along the first k edges at a vertex that are not x. -/
def exU (es : List (Int × Int)) (v x : Int) (k : Nat) : List Int := ((List.range k).filter fun i => !decide ((nthO es v i : Int) = x)).map fun i => othE es v (nthO es v i)
theorem exU_yes {es : List (Int × Int)} {v x : Int} {k : Nat} (h : ¬ (nthO es v k : Int) = x) : exU es v x (k + 1) = exU es v x k ++ [othE es v (nthO es v k)] := by
  unfold exU
  rw [List.range_succ, List.filter_append, List.map_append]
  simp [h]
theorem exU_no {es : List (Int × Int)} {v x : Int} {k : Nat} (h : (nthO es v k : Int) = x) : exU es v x (k + 1) = exU es v x k := by
  unfold exU
  rw [List.range_succ, List.filter_append, List.map_append]
  simp [h]
theorem exU_len (es : List (Int × Int)) (v x : Int) (k : Nat) : (exU es v x k).length ≤ k := by
  unfold exU
  rw [List.length_map]
  exact Nat.le_trans (List.length_filter_le _ _) (by simp)
theorem nth_in {s : Int} {es : List (Int × Int)} (g : IsG s es) {v : Int} (hv : 0 ≤ v ∧ v < s) {k : Nat} (hk : k < 3) : nthO es v k < es.length ∧ onE es v (nthO es v k) = true ∧ eI (atF es v) k = (nthO es v k : Int) := by
  have h3 := atF_three g hv.1 hv.2
  rw [onL_at, List.length_map] at h3
  have hm : nthO es v k ∈ onL es v := by
    unfold nthO
    rw [List.getD_eq_getElem?_getD, List.getElem?_eq_getElem (by omega)]
    exact List.getElem_mem _
  refine ⟨(onL_mem.1 hm).1, (onL_mem.1 hm).2, ?_⟩
  rw [onL_at, eI_lt (by rw [List.length_map]; omega), List.getElem_map]
  unfold nthO
  rw [List.getD_eq_getElem?_getD, List.getElem?_eq_getElem (by omega)]
  rfl
theorem exU_all {s : Int} {es : List (Int × Int)} (g : IsG s es) {v : Int} (hv : 0 ≤ v ∧ v < s) : exU es v (-1) 3 = endsF es v := by
  have h3 := atF_three g hv.1 hv.2
  rw [onL_at, List.length_map] at h3
  unfold exU endsF
  rw [List.filter_eq_self.2 fun i _ => by first | (simp; done) | (simp; omega)]
  refine List.ext_getElem (by simp [h3]) fun i h1 h2 => ?_
  rw [List.getElem_map, List.getElem_map, List.getElem_range]
  congr 1
  unfold nthO
  rw [List.getD_eq_getElem?_getD, List.getElem?_eq_getElem (by simpa using h2)]
  rfl

/-- An append at a step that is wanted, whatever its guard. -/
theorem step_append_wantedX {P : Program} {w : World} {ops : Array Oper} {o : Oper} {a : Act} {K : Act → World → Prop} {Q : Exit → Act → World → Prop} {E : Prop} (hw : Region.wanted o (yielded ops a.tmps) = true) (s x : Operand) (t : TypeId)
    (ho : o.op = .call { callee := .builtin .append, args := #[s, x], argTypes := #[t, t] })
    (base : Nat) (e : TypeId) (i : TypeInfo) (z : Value) (size bytes : Nat) (ht : P.underlying t = some (.slice e)) (hi : P.info? e = some i) (hz : i.zero = some z)
    (hsize : i.size = size) (hby : i.bytes = bytes) (hzs : z.cells.size = size) (hsz : 0 < size)
    (v : Value) (n : Nat) (xs : List Value) (hs : a.eval s = v) (hown : w.ownsRow base e size v n xs)
    (ad : Addr) (m c : Nat) (news : List Value) (hx : a.eval x = .slice (some ad) m c) (hl : news.length = m * size) (hnews : ∀ j u, news[j]? = some u → w.cell? (ad.add j) = some u) (h1 : ∀ u ∈ news, u.oneCell' = true)
    (hm : 0 < m) (h63 : n + m ≤ maxLen) (hbytes : (n + m) * bytes ≤ 140737488355328) (hbase : base ≤ w.heap.size)
    (h : ∀ g cap w', w'.ownsRow base e size (.slice (some ⟨g, 0, none⟩) (n + m) cap) (n + m) (xs ++ news) → w.grownBy w' v.ownBlock → (v.ownBlock = some g ∨ g = w.heap.size) → g < w'.heap.size → K (a.put o.dst (.slice (some ⟨g, 0, none⟩) (n + m) cap)) w') :
    if Region.wanted o (yielded ops a.tmps) = true then Oper.wp P o a w K Q else E := by
  rw [if_pos hw]
  exact wp_append_lies w s x t ho base e i z size bytes ht hi hz hsize hby hzs hsz v n xs hs hown ad m c news hx hl hnews h1 hm h63 hbytes hbase w.heap.size rfl h

set_option maxRecDepth 100000 in
set_option maxHeartbeats 8000000 in
theorem sEndsX_any (s v x : Int) (b off n c : Nat) (es : List (Int × Int)) (w : World) (hn : es.length = n) (hr : ReadsE w b off es) (g : IsG s es) (hv : 0 ≤ v ∧ v < s) :
    Calls Try.prog 31 #[.agg #[.int .i64 s, .slice (some ⟨b, off, none⟩) n c], .int .i64 v, .int .i64 x] w fun e w' => ∃ q cap, e = .returned (.slice q (exU es v x 3).length cap) ∧ FreshI w.heap.size w' q (exU es v x 3).length cap (exU es v x 3) ∧ Below w.heap.size w w' := by
  have hn30 : n ≤ 30 := by have := isG_len g; omega
  have hs20 : s ≤ 20 := g.1.1.2.1
  have Hn := hid hn
  have Hr := hid hr
  have G := hid g
  have hv1 := hv.1
  have hv2 := hv.2
  obtain ⟨j0, hj, hy0, hy1, hy2⟩ := info_parts infoInt
  have Hj := hid hj
  clear hn hr g hv hj
  go_enter Try.func31, Try.ntmps31
  go_wp2_with fail
  refine (sAt_any s v b off n c es _ Hn.out hn30 (Hr.out.on (on_alloc _ _))).mono ?_
  rw [atF_three G.out hv1 hv2]
  rintro e w2 ⟨qa, ca, rfl, hfa, hb2⟩
  have HX2 := hid ((Box.new w s (some ⟨b, off, none⟩) n c 28).on hb2)
  have HB2 := hid (bfrom (w := w) (on_alloc _ _) hb2)
  rcases hfa.form with ⟨_, hk0, _⟩ | ⟨ga, rfl, hga, hoa⟩
  · omega
  have HA2 := hid hoa.reads
  have hal := hoa.lt
  clear hfa hb2 hoa
  go_wp2_with fail
  have HX3 : Hid (Box (w2.alloc (.cells #[] 2)) w.heap.size s (some ⟨b, off, none⟩) n c) := hid (HX2.out.on (on_alloc _ _))
  have HA3 := hid (HA2.out.on (on_alloc w2 (.cells #[] 2)))
  have HB3 := hid (bfrom HB2.out (on_alloc w2 (.cells #[] 2)))
  go_loopw [8, 9] (fun u i wr => ∃ (k l cap : Nat) (q : Option Addr), k ≤ 3 ∧ Hid ((exU es v x k).length = l) ∧ u = .slice q l cap ∧ i = .int .i64 k ∧ Hid (wr.ownsRow w2.heap.size 2 1 (.slice q l cap) l (intVals (exU es v x k))) ∧ Hid (ReadsI wr ga 0 (atF es v)) ∧ Hid (Below w2.heap.size w2 wr) ∧ Hid (Box wr w.heap.size s (some ⟨b, off, none⟩) n c) ∧ w2.heap.size < wr.heap.size) (fun _ i _ => 3 - (intOf i).toNat)
  case atStart => exact ⟨0, 0, 0, _, Nat.zero_le _, hid rfl, rfl, rfl, hid (by have h := World.ownsRow_made (base := w2.heap.size) (e := 2) (size := 1) w2 #[] 0 (by omega) (Nat.zero_le _) rfl; exact h), HA3, hid (on_alloc _ _), HX3, by simp⟩
  case round =>
    clear HX3 HA3
    obtain ⟨k, l, cap, q, hk, hl, rfl, rfl, hO, hAt, hB, hX, hzr⟩ := hrel
    have hx := hX.out.1
    have hy := hX.out.2
    have hlx := hX.out.lt
    obtain ⟨wo, rfl⟩ : ∃ wo : World, wo = wr := ⟨_, rfl⟩
    have HBw := hid (show Below w.heap.size w wo from HB2.out.trans (hB.out.mono (by have := HB2.out.size; omega)))
    by_cases hlt : k < 3
    · obtain ⟨t1, t2, t3⟩ := nth_in G.out ⟨hv1, hv2⟩ hlt
      have hcA := hAt.out k (by rw [atF_three G.out hv1 hv2]; exact hlt)
      rw [Nat.zero_add, t3] at hcA
      obtain ⟨E, hE⟩ : ∃ E, nthO es v k = E := ⟨_, rfl⟩
      rw [hE] at t1 t2 hcA
      have hgl := World.block_lt_of_cell? wo _ hcA
      have hll : l ≤ k := by rw [← hl.out]; exact exU_len es v x k
      have T := hid (And.intro t1 t2)
      by_cases hx1 : (E : Int) = x
      · have hxb : ((E : Int) != x) = false := by simp [hx1]
        have hU := hid (exU_no (v := v) (show (nthO es v k : Int) = x by rw [hE]; exact hx1))
        clear hx1 hE t1 t2 t3
        go_wp2_with fail
        go_roundw
        case rel => exact ⟨k + 1, l, cap, q, by omega, hid (by rw [hU.out]; exact hl.out), rfl, by go_num, hid (by rw [hU.out]; exact hO.out), hAt, hB, hX, hzr⟩
        case measure => simp [intOf]; omega
      · have hxb : ((E : Int) != x) = true := by simp [hx1]
        have hU := hid (exU_yes (v := v) (show ¬ (nthO es v k : Int) = x by rw [hE]; exact hx1))
        rw [hE] at hU
        have hrow : ∀ g, (Value.slice q l cap).ownBlock = some g → w2.heap.size ≤ g ∧ g < wo.heap.size := hO.out.lt
        have hei := isG_pos G.out t1
        obtain ⟨V, hV⟩ : ∃ V, othE es v E = V := ⟨_, rfl⟩
        have HV := hid hV
        rw [hV] at hU
        have hVe : eA es E + eB es E - v = V := hV
        clear hx1 hE t1 t2 t3 hV
        go_upto_region 6 with fail
        go_region_held3 (fun w' => w'.cell? ⟨w.heap.size, 0, none⟩ = some (.int .i64 s) ∧ w'.cell? ⟨w.heap.size, 1, none⟩ = some (.slice (some ⟨b, off, none⟩) n c) ∧ w'.cell? ⟨ga, k, none⟩ = some (.int .i64 (E : Int))) (first | go_keep | exact ⟨hx7, hy7, ha7⟩ | exact ⟨hx6, hy6, ha6⟩) (first
          | (go_at_call 66; refine (sOther_any s E v b off n c E es _ (by omega) Hn.out (Hr.out.on HBw.out.drew) rfl (by have h := T.out.1; have := Hn.out; omega) ⟨hei.1, by omega⟩ ⟨hei.2.2.1, by omega⟩ ⟨hv1, by omega⟩).mono ?_; rw [hVe]; rintro e' w6 ⟨rfl, hb6⟩; have hB6 : Below wo.heap.size wo w6 := bfrom (Below.refl _ _).drew hb6; have hz6 := hB6.size; have hx6 := ((bcells hB6).1 _ _ hlx).trans hx; have hy6 := ((bcells hB6).1 _ _ hlx).trans hy; have ha6 := ((bcells hB6).1 _ _ hgl).trans hcA)
          | (refine step_append_wantedX (by rfl) (.tmp 24) (.tmp 32) 41 (by rfl) w2.heap.size 2 j0 (.int .i64 0) 1 8 Try.underlying41 Hj.out hy0 hy1 hy2 rfl (by decide) (.slice q l cap) l _ (by rfl) (World.ownsRow.alloc (FreshI.on ⟨hO.out, hl.out⟩ hB6).1 _) ⟨w6.heap.size, 0, none⟩ 1 1 [.int .i64 V] (by rfl) rfl (World.news_of_block (cs := #[.int .i64 V]) (t := 2) (fr := (0, 0)) (heap_alloc_new _ _)) (by simp [Value.oneCell']) (by decide) (by unfold maxLen; omega) (by omega) (by rw [World.size_alloc]; omega) ?_; intro g7 cap7 w7 hown7 hgr7 hlie7 hgl7; have hx7 := (hgr7.cell_far (a := ⟨w.heap.size, 0, none⟩) (by simp; omega) (fun h => by have h2 := (hrow _ h.symm).1; have h3 := HX2.out.lt; simp at h2; omega)).trans (((bcells (on_alloc w6 _)).1 _ _ (by omega)).trans hx6); have hy7 := (hgr7.cell_far (a := ⟨w.heap.size, 1, none⟩) (by simp; omega) (fun h => by have h2 := (hrow _ h.symm).1; have h3 := HX2.out.lt; simp at h2; omega)).trans (((bcells (on_alloc w6 _)).1 _ _ (by omega)).trans hy6); have ha7 := (hgr7.cell_far (a := ⟨ga, k, none⟩) (by simp; omega) (fun h => by have h2 := (hrow _ h.symm).1; simp at h2; omega)).trans (((bcells (on_alloc w6 _)).1 _ _ (by omega)).trans ha6); have Hown := hid hown7; have Hgrow := hid hgr7; have HB6 := hid hB6; clear hown7 hgr7 hlie7))
        all_goals
          go_wp2
          go_roundw
          case rel =>
            refine ⟨k + 1, l + 1, cap7, some ⟨g7, 0, none⟩, by omega, hid (by rw [hU.out, List.length_append, hl.out]; rfl), rfl, by go_num, hid (by rw [hU.out, intVals_append]; exact Hown.out), hid ?_, hid ?_, hid ?_, ?_⟩
            · exact ReadsI.keep hAt.out ((Hgrow.out.block ga (by simp; omega) (fun e => by have h2 := (hrow _ e.symm).1; omega)).trans ((Below.heap_alloc w6 _ ga (by omega)).trans (HB6.out.block ga hgl)))
            · exact ((hB.out.trans (HB6.out.mono (by omega))).alloc (by omega) _).grown Hgrow.out (by simp; omega) (fun j e => (hrow j e).1)
            · exact ((hX.out.on HB6.out).on (on_alloc _ _)).kept Hgrow.out (fun h => by have h2 := (hrow _ h.symm).1; have h3 := HX2.out.lt; omega)
            · have h2 := Hgrow.out.size
              simp at h2
              omega
          case measure => simp [intOf]; omega
    · obtain rfl : k = 3 := by omega
      go_wp2_with fail
      obtain rfl : (exU es v x 3).length = l := hl.out
      go_ret
      exact ⟨q, cap, rfl, FreshI.less ⟨hO.out, rfl⟩ (by have := HB2.out.size; omega), HBw.out⟩

end Go.Proofs.Ytfdlhdgmbjdhbaa

namespace Go.Proofs.Ytfdlhdgmbjdhbaa
open Go.RowKit Go.Lib

/-- The new numbers of the first k vertices, -1 for those that are taken out. -/
def nwF (f : Int) (xs : List Int) (v : Nat) : Int := if (v : Int) ∈ xs then -1 else f + numW v xs xs.length
def nmL (f : Int) (xs : List Int) (k : Nat) : List Int := (List.range k).map (nwF f xs)
theorem nmL_len (f : Int) (xs : List Int) (k : Nat) : (nmL f xs k).length = k := by simp [nmL]
theorem nmL_succ (f : Int) (xs : List Int) (k : Nat) : nmL f xs (k + 1) = nmL f xs k ++ [nwF f xs k] := by
  unfold nmL
  rw [List.range_succ, List.map_append]
  rfl
theorem nmL_at {f : Int} {xs : List Int} {k v : Nat} (h : v < k) : eI (nmL f xs k) v = nwF f xs v := by
  rw [eI_lt (by rw [nmL_len]; exact h)]
  simp [nmL]
theorem less_next (xs : List Int) (k : Nat) : (xs.filter fun x => decide (x < ((k + 1 : Nat) : Int))).length = (xs.filter fun x => decide (x < (k : Int))).length + xs.count (k : Int) := by
  induction xs with
  | nil => rfl
  | cons x xs ih =>
    rw [List.count_cons, List.filter_cons, List.filter_cons]
    by_cases h1 : x < (k : Int)
    · have h2 : x < ((k + 1 : Nat) : Int) := by omega
      have h3 : (x == (k : Int)) = false := by rw [beq_eq_false_iff_ne]; omega
      rw [if_pos (decide_eq_true h1), if_pos (decide_eq_true h2), h3, List.length_cons, List.length_cons, ih]
      simp
      omega
    · by_cases h2 : x = (k : Int)
      · have h3 : (x == (k : Int)) = true := by rw [beq_iff_eq]; exact h2
        have h4 : x < ((k + 1 : Nat) : Int) := by omega
        rw [if_pos (decide_eq_true h4), if_neg (by simpa using h1), h3, List.length_cons, ih]
        simp
        omega
      · have h3 : (x == (k : Int)) = false := by rw [beq_eq_false_iff_ne]; exact h2
        have h4 : ¬ x < ((k + 1 : Nat) : Int) := by omega
        rw [if_neg (by simpa using h4), if_neg (by simpa using h1), h3, ih]
        simp
theorem numW_next {xs : List Int} (hn : xs.Nodup) (k : Nat) : numW ((k + 1 : Nat) : Int) xs xs.length = if (k : Int) ∈ xs then numW k xs xs.length else numW k xs xs.length + 1 := by
  unfold numW
  rw [List.take_length, less_next]
  by_cases h : (k : Int) ∈ xs
  · rw [if_pos h, List.Nodup.count hn, if_pos h]
    omega
  · rw [if_neg h, List.count_eq_zero.2 h]
    omega
theorem numW_start {xs : List Int} (h0 : ∀ x, x ∈ xs → 0 ≤ x) : numW ((0 : Nat) : Int) xs xs.length = 0 := by
  unfold numW
  rw [List.take_length, List.filter_eq_nil_iff.2 fun x hx => by have := h0 x hx; simp; omega]
  rfl
theorem numW_pos {xs : List Int} (hn : xs.Nodup) (h0 : ∀ x, x ∈ xs → 0 ≤ x) : ∀ k : Nat, 0 ≤ numW (k : Int) xs xs.length ∧ numW (k : Int) xs xs.length ≤ k
  | 0 => by rw [numW_start h0]; omega
  | k + 1 => by
    have h := numW_pos hn h0 k
    rw [numW_next hn]
    split <;> omega
theorem nwF_yes {f : Int} {xs : List Int} {v : Nat} (h : (v : Int) ∈ xs) : nwF f xs v = -1 := by unfold nwF; rw [if_pos h]
theorem nwF_no {f : Int} {xs : List Int} {v : Nat} (h : ¬ (v : Int) ∈ xs) : nwF f xs v = f + numW v xs xs.length := by unfold nwF; rw [if_neg h]

/-- What holds at the end of a round, behind the number that was put on. -/
theorem without_rel {w wo w1 : World} {N b off n c k cap cap' g : Nat} {f F : Int} {q : Option Addr} {xs : List Int} {m : Nat} {V : Value} (hlt : k < N) (hF : F = f + numW ((k + 1 : Nat) : Int) xs m)
    (hown : w1.ownsRow (w.heap.size + 1) 2 1 (.slice (some ⟨g, 0, none⟩) (k + 1) cap') (k + 1) (intVals (nmL f xs (k + 1)))) (hne : ∀ g, (Value.slice q k cap).ownBlock = some g → g ≠ w.heap.size + 1 + 1)
    (hlie : (Value.slice q k cap).ownBlock = some g ∨ g = wo.heap.size + 1) (hrow : ∀ g, (Value.slice q k cap).ownBlock = some g → w.heap.size + 1 ≤ g ∧ g < wo.heap.size)
    (hgr : (wo.alloc (.cells #[V] 2)).grownBy w1 (Value.slice q k cap).ownBlock) (hOE : wo.ownsRow (w.heap.size + 1 + 1) 57 2 (.slice (some ⟨w.heap.size + 1 + 1, 0, none⟩) 0 0) 0 []) (hB : Below w.heap.size w wo) (hX : Box wo w.heap.size N (some ⟨b, off, none⟩) n c) (hz : w.heap.size + 1 + 1 < wo.heap.size) :
    ∃ (k' cap'' : Nat) (F' : Int) (q' : Option Addr), k' ≤ N ∧ Hid (F' = f + numW (k' : Int) xs m) ∧ Value.int .i64 F = .int .i64 F' ∧ Value.slice (some ⟨g, 0, none⟩) (k + 1) cap' = .slice q' k' cap'' ∧ Value.int .i64 ((k : Int) + 1) = .int .i64 (k' : Int) ∧ Hid (w1.ownsRow (w.heap.size + 1) 2 1 (.slice q' k' cap'') k' (intVals (nmL f xs k')) ∧ ∀ g, (Value.slice q' k' cap'').ownBlock = some g → g ≠ w.heap.size + 1 + 1) ∧ Hid (w1.ownsRow (w.heap.size + 1 + 1) 57 2 (.slice (some ⟨w.heap.size + 1 + 1, 0, none⟩) 0 0) 0 []) ∧ Hid (Below w.heap.size w w1) ∧ Hid (Box w1 w.heap.size N (some ⟨b, off, none⟩) n c) ∧ w.heap.size + 1 + 1 < w1.heap.size := by
  refine ⟨k + 1, cap', F, some ⟨g, 0, none⟩, by omega, hid hF, rfl, rfl, by go_num, hid ⟨hown, fun g' e => ?_⟩, hid ?_, hid ?_, hid ?_, ?_⟩
  · have e : g = g' := Option.some.inj e
    rw [← e]
    rcases hlie with h | h
    · exact hne g h
    · omega
  · refine (hOE.alloc _).kept hgr ?_
    by_cases hq : (Value.slice q k cap).ownBlock = none
    · exact .inr (by rw [hq]; simp [Value.ownBlock])
    · refine .inr fun e => ?_
      exact hne (w.heap.size + 1 + 1) e.symm rfl
  · exact (hB.alloc hB.size _).grown hgr (by simp; omega) (fun j hj => by have := (hrow j hj).1; omega)
  · exact (hX.on (on_alloc _ _)).kept hgr (fun h => by have := (hrow _ h.symm).1; omega)
  · have := hgr.size; simp at this; omega

set_option maxRecDepth 100000 in
set_option maxHeartbeats 8000000 in
theorem sWithout_any (N b off n c xb xo m mc : Nat) (f : Int) (es : List (Int × Int)) (xs : List Int) (w : World) (hn : es.length = n) (hn30 : n ≤ 30) (hN : N ≤ 20) (hN1 : 1 ≤ N) (hr : ReadsE w b off es) (hE : EndsIn N es) (hf : 0 ≤ f ∧ f ≤ 1000) (hx : xs.length = m) (hm : m ≤ 10) (hrx : ReadsI w xb xo xs) (hnd : xs.Nodup) (h0 : ∀ x, x ∈ xs → 0 ≤ x)
    (hxw : xb < w.heap.size) :
    Calls Try.prog 30 #[.agg #[.int .i64 N, .slice (some ⟨b, off, none⟩) n c], .int .i64 f, .slice (some ⟨xb, xo, none⟩) m mc] w fun e w' => ∃ gN capN q cap, e = .returned (.tuple #[.slice q (mdU f es xs n).length cap, .slice (some ⟨gN, 0, none⟩) N capN]) ∧
      FreshE w.heap.size w' q (mdU f es xs n).length cap (mdU f es xs n) ∧ (w.heap.size ≤ gN ∧ OwnI w' gN capN (nmL f xs N) ∧ ∀ g, (Value.slice q (mdU f es xs n).length cap).ownBlock = some g → gN ≠ g) ∧ Below w.heap.size w w' := by
  have Hn := hid hn
  have Hr := hid hr
  have HE := hid hE
  have Hx := hid hx
  have Hrx := hid hrx
  have Hnd := hid hnd
  have H0 := hid h0
  obtain ⟨i0, hi, hz0, hz1, hz2⟩ := info_parts infoEdge
  obtain ⟨j0, hj, hy0, hy1, hy2⟩ := info_parts infoInt
  have Hi := hid hi
  have Hj := hid hj
  have hf1 := hf.1
  have hf2 := hf.2
  clear hn hr hE hx hrx hnd h0 hi hj hf
  go_enter Try.func30, Try.ntmps30
  go_wp2_with fail
  obtain ⟨W1, hW1⟩ : ∃ W1, W1 = ((w.alloc (.cells #[.int .i64 N, .slice (some ⟨b, off, none⟩) n c] 28)).alloc (.cells #[] 2)).alloc (.cells #[] 57) := ⟨_, rfl⟩
  have HX1 : Hid (Box W1 w.heap.size N (some ⟨b, off, none⟩) n c) := hid (by rw [hW1]; exact ((Box.new w N (some ⟨b, off, none⟩) n c 28).on (on_alloc _ _)).on (on_alloc _ _))
  have HB1 : Hid (Below w.heap.size w W1) := hid (by rw [hW1]; exact bfrom (bfrom (on_alloc _ _) (on_alloc _ _)) (on_alloc _ _))
  have HN1 : Hid (W1.ownsRow (w.heap.size + 1) 2 1 (.slice (some ⟨w.heap.size + 1, 0, none⟩) 0 0) 0 []) := hid (by rw [hW1]; exact (row_new_int w _).alloc _)
  have HE1 : Hid (W1.ownsRow (w.heap.size + 1 + 1) 57 2 (.slice (some ⟨w.heap.size + 1 + 1, 0, none⟩) 0 0) 0 []) := hid (by
    rw [hW1]
    have h := World.ownsRow_made (base := w.heap.size + 1 + 1) (e := 57) (size := 2) ((w.alloc (.cells #[.int .i64 N, .slice (some ⟨b, off, none⟩) n c] 28)).alloc (.cells #[] 2)) #[] 0 (by simp only [World.size_alloc]; omega) (Nat.zero_le _) rfl
    simpa only [World.size_alloc] using h)
  have hs1 : w.heap.size + 1 + 1 < W1.heap.size := by rw [hW1]; simp only [World.size_alloc]; omega
  rw [← hW1]
  clear hW1
  have HF0 := hid (show numW ((0 : Nat) : Int) xs m = 0 by rw [← Hx.out]; exact numW_start H0.out)
  have HNx := hid (show ∀ k : Nat, numW ((k + 1 : Nat) : Int) xs m = if (k : Int) ∈ xs then numW k xs m else numW k xs m + 1 from fun k => by rw [← Hx.out]; exact numW_next Hnd.out k)
  have HPs := hid (show ∀ k : Nat, 0 ≤ numW (k : Int) xs m ∧ numW (k : Int) xs m ≤ k from fun k => by rw [← Hx.out]; exact numW_pos Hnd.out H0.out k)
  go_loopw [1, 8, 10] (fun fr u i wr => ∃ (k cap : Nat) (F : Int) (q : Option Addr), k ≤ N ∧ Hid (F = f + numW (k : Int) xs m) ∧ fr = .int .i64 F ∧ u = .slice q k cap ∧ i = .int .i64 k ∧ Hid (wr.ownsRow (w.heap.size + 1) 2 1 (.slice q k cap) k (intVals (nmL f xs k)) ∧ ∀ g, (Value.slice q k cap).ownBlock = some g → g ≠ w.heap.size + 1 + 1) ∧ Hid (wr.ownsRow (w.heap.size + 1 + 1) 57 2 (.slice (some ⟨w.heap.size + 1 + 1, 0, none⟩) 0 0) 0 []) ∧ Hid (Below w.heap.size w wr) ∧ Hid (Box wr w.heap.size N (some ⟨b, off, none⟩) n c) ∧ w.heap.size + 1 + 1 < wr.heap.size) (fun _ _ i _ => N - (intOf i).toNat)
  case atStart => exact ⟨0, 0, f, _, Nat.zero_le _, hid (by rw [HF0.out]; omega), rfl, rfl, rfl, hid ⟨HN1.out, fun g h => by have e : w.heap.size + 1 = g := Option.some.inj h; omega⟩, HE1, HB1, HX1, hs1⟩
  case round =>
    obtain ⟨k, cap, F, q, hk, hF, rfl, rfl, rfl, hO, hOE, hB, hX, hzr⟩ := hrel
    have hx := hX.out.1
    have hy := hX.out.2
    have hl := hX.out.lt
    obtain ⟨wo, rfl⟩ : ∃ wo : World, wo = wr := ⟨_, rfl⟩
    by_cases hlt : k < N
    · have hFp : 0 ≤ F ∧ F ≤ 1020 := by have h := HPs.out k; have := hF.out; omega
      have hF1 := hFp.1
      have hF2 := hFp.2
      clear hFp
      go_wp2_with fail
      go_loopw [11, 12] (fun o i wi => ∃ j : Nat, j ≤ m ∧ o = .int .i64 (if (k : Int) ∈ xs.take j then -1 else F) ∧ i = .int .i64 j ∧ wo = wi) (fun _ i _ => m - (intOf i).toNat)
      case atStart => exact ⟨0, Nat.zero_le _, by simp, rfl, rfl⟩
      case round =>
        obtain ⟨j, hj, rfl, rfl, rfl⟩ := hrel
        by_cases hlj : j < m
        · have hcx := Hrx.out.on hB.out j (by have := Hx.out; omega)
          have htk := hid (take_int (xs := xs) (k := j) (by have := Hx.out; omega))
          obtain ⟨X, hX0⟩ : ∃ X, eI xs j = X := ⟨_, rfl⟩
          rw [hX0] at hcx
          have HX0 := hid hX0
          have hxw' : xb < wo.heap.size := by have := hB.out.size; omega
          clear hX0
          by_cases he : X = (k : Int)
          · have heb : (X == (k : Int)) = true := by simpa using he
            go_wp2_with fail
            go_roundw
            case rel => exact ⟨j + 1, by omega, by rw [htk.out, HX0.out, if_pos (by simp [he])], by go_num, trivial⟩
            case measure => simp [intOf]; omega
          · have heb : (X == (k : Int)) = false := by simpa using he
            have hme := hid (show ((k : Int) ∈ xs.take (j + 1)) = ((k : Int) ∈ xs.take j) from propext (by rw [htk.out, HX0.out, List.mem_append, List.mem_singleton]; constructor; (rintro (h | h); exact h; exact absurd h.symm he); exact Or.inl))
            go_wp2_with fail
            go_roundw
            case rel => exact ⟨j + 1, by omega, by simp only [hme.out], by go_num, trivial⟩
            case measure => simp [intOf]; omega
        · obtain rfl : j = m := by omega
          have hall : xs.take j = xs := List.take_of_length_le (by rw [Hx.out]; exact Nat.le_refl _)
          rw [hall]
          clear hall
          have hrow : ∀ g, (Value.slice q k cap).ownBlock = some g → w.heap.size + 1 ≤ g ∧ g < wo.heap.size := hO.out.1.lt
          by_cases hin : (k : Int) ∈ xs
          · have HV := hid (nwF_yes (f := f) hin)
            have HFn := hid (show F = f + numW ((k + 1 : Nat) : Int) xs j by rw [HNx.out k, if_pos hin]; exact hF.out)
            rw [if_pos hin]
            clear hin
            go_wp2_with (at_builtin; go_must (refine wpList_append_lies _ rfl (.tmp 41) (.tmp 43) 41 rfl (w.heap.size + 1) 2 j0 (.int .i64 0) 1 8 Try.underlying41 Hj.out hy0 hy1 hy2 rfl (by decide) (.slice q k cap) k _ rfl (hO.out.1.alloc _) ⟨wo.heap.size, 0, none⟩ 1 1 [.int .i64 (-1)] rfl rfl (World.news_of_block (cs := #[.int .i64 (-1)]) (t := 2) (fr := (0, 0)) (heap_alloc_new wo _)) (by simp [Value.oneCell']) (by decide) (by unfold maxLen; omega) (by omega) (by simp; omega) (wo.heap.size + 1) (by simp) ?_); intro g cap' w1 hown1 hgrow1 hlie hg1; have Hown := hid hown1; have Hgrow := hid hgrow1; have Hlie := hid hlie; clear hown1 hgrow1 hlie)
            go_roundw
            case rel => exact without_rel hlt HFn.out (by rw [nmL_succ, HV.out, intVals_append]; exact Hown.out) hO.out.2 Hlie.out hrow Hgrow.out hOE.out hB.out hX.out hzr
            case measure => simp [intOf]; omega
          · have HV := hid ((nwF_no (f := f) hin).trans (by rw [Hx.out, ← hF.out]))
            have HFn := hid (show F + 1 = f + numW ((k + 1 : Nat) : Int) xs j by rw [HNx.out k, if_neg hin]; have := hF.out; omega)
            rw [if_neg hin]
            clear hin
            have hge : decide (0 ≤ F) = true := decide_eq_true hF1
            have hw1 : wrap64 (F + 1) = F + 1 := IntWalk.wrap64_in _ (by omega)
            go_wp2_with (at_builtin; go_must (refine wpList_append_lies _ rfl (.tmp 41) (.tmp 43) 41 rfl (w.heap.size + 1) 2 j0 (.int .i64 0) 1 8 Try.underlying41 Hj.out hy0 hy1 hy2 rfl (by decide) (.slice q k cap) k _ rfl (hO.out.1.alloc _) ⟨wo.heap.size, 0, none⟩ 1 1 [.int .i64 F] rfl rfl (World.news_of_block (cs := #[.int .i64 F]) (t := 2) (fr := (0, 0)) (heap_alloc_new wo _)) (by simp [Value.oneCell']) (by decide) (by unfold maxLen; omega) (by omega) (by simp; omega) (wo.heap.size + 1) (by simp) ?_); intro g cap' w1 hown1 hgrow1 hlie hg1; have Hown := hid hown1; have Hgrow := hid hgrow1; have Hlie := hid hlie; clear hown1 hgrow1 hlie)
            go_roundw
            case rel => exact without_rel hlt HFn.out (by rw [nmL_succ, HV.out, intVals_append]; exact Hown.out) hO.out.2 Hlie.out hrow Hgrow.out hOE.out hB.out hX.out hzr
            case measure => simp [intOf]; omega
    · obtain rfl : k = N := by omega
      have hfr : FreshI (w.heap.size + 1) wo q k cap (nmL f xs k) := ⟨hO.out.1, nmL_len f xs k⟩
      rcases hfr.form with ⟨_, hk0, _⟩ | ⟨gN, rfl, hgN, hoN⟩
      · omega
      have hgne : gN ≠ w.heap.size + 1 + 1 := hO.out.2 gN rfl
      have HON := hid hoN
      clear hfr hoN hO
      go_wp2_with fail
      go_loopw [9, 13] (fun u i wi => ∃ (j l cap2 : Nat) (q2 : Option Addr), j ≤ n ∧ Hid ((mdU f es xs j).length = l) ∧ u = .slice q2 l cap2 ∧ i = .int .i64 j ∧ Hid (wi.ownsRow (w.heap.size + 1 + 1) 57 2 (.slice q2 l cap2) l (edgeVals (mdU f es xs j)) ∧ ∀ g, (Value.slice q2 l cap2).ownBlock = some g → gN ≠ g) ∧ Hid (OwnI wi gN cap (nmL f xs k)) ∧ Hid (Below w.heap.size w wi) ∧ Hid (Box wi w.heap.size k (some ⟨b, off, none⟩) n c)) (fun _ i _ => n - (intOf i).toNat)
      case atStart => exact ⟨0, 0, 0, _, Nat.zero_le _, hid rfl, rfl, rfl, hid ⟨hOE.out, fun g h => by have e : w.heap.size + 1 + 1 = g := Option.some.inj h; omega⟩, HON, hB, hX⟩
      case round =>
        clear hx hy hl
        obtain ⟨j, l, cap2, q2, hj, hl2, rfl, rfl, hO2, hN2, hB2, hX2⟩ := hrel
        have hx := hX2.out.1
        have hy := hX2.out.2
        have hl := hX2.out.lt
        have hgl := hN2.out.lt
        obtain ⟨wi, rfl⟩ : ∃ wi : World, wi = wr := ⟨_, rfl⟩
        by_cases hlt : j < n
        · have hml : j < es.length := by rw [Hn.out]; exact hlt
          have hok := HE.out j hml
          obtain ⟨X, hX0⟩ : ∃ X : Nat, eA es j = X := ⟨_, (Int.toNat_of_nonneg hok.1.1).symm⟩
          obtain ⟨Y, hY0⟩ : ∃ Y : Nat, eB es j = Y := ⟨_, (Int.toNat_of_nonneg hok.2.1).symm⟩
          have hc1 := (Hr.out.on hB2.out j hml).1
          have hc2 := (Hr.out.on hB2.out j hml).2
          rw [hX0] at hc1
          rw [hY0] at hc2
          have hXk : X < k := by omega
          have hYk : Y < k := by omega
          have hXk' : (X : Int) < (k : Int) := by omega
          have hYk' : (Y : Int) < (k : Int) := by omega
          have hbw' := World.block_lt_of_cell? wi _ hc1
          have hnX := hN2.out.reads X (by rw [nmL_len]; exact hXk)
          have hnY := hN2.out.reads Y (by rw [nmL_len]; exact hYk)
          rw [Nat.zero_add, nmL_at hXk] at hnX
          rw [Nat.zero_add, nmL_at hYk] at hnY
          obtain ⟨a, ha⟩ : ∃ a, nwF f xs X = a := ⟨_, rfl⟩
          obtain ⟨d, hd⟩ : ∃ d, nwF f xs Y = d := ⟨_, rfl⟩
          rw [ha] at hnX
          rw [hd] at hnY
          have hlj : l ≤ j := by rw [← hl2.out]; exact mdU_len f es xs j
          have hrow : ∀ g, (Value.slice q2 l cap2).ownBlock = some g → w.heap.size + 1 + 1 ≤ g ∧ g < wi.heap.size := hO2.out.1.lt
          by_cases hXin : (X : Int) ∈ xs
          · have hg := hid (mdU_no (f := f) (show outG es xs j = false by unfold outG; rw [hX0, decide_eq_true hXin]; rfl))
            obtain rfl : -1 = a := by rw [← ha, nwF_yes hXin]
            have HX0 := hid (And.intro hX0 hY0)
            clear ha hd hX0 hY0 hok hXin
            go_wp2
            go_region
            go_wp2
            go_roundw
            case rel => exact ⟨j + 1, l, cap2, q2, by omega, hid (by rw [hg.out]; exact hl2.out), rfl, by go_num, hid (by rw [hg.out]; exact hO2.out), hN2, hid hB2.out.drew, hX2⟩
            case measure => simp [intOf]; omega
          · have hapos : 0 ≤ a := by rw [← ha, nwF_no hXin, Hx.out]; have := HPs.out X; omega
            have hab : decide (0 ≤ a) = true := decide_eq_true hapos
            by_cases hYin : (Y : Int) ∈ xs
            · have hg := hid (mdU_no (f := f) (show outG es xs j = false by unfold outG; rw [hY0, decide_eq_true hYin]; simp))
              obtain rfl : -1 = d := by rw [← hd, nwF_yes hYin]
              clear ha hd hX0 hY0 hok hXin hYin
              go_wp2
              go_region
              go_wp2
              go_roundw
              case rel => exact ⟨j + 1, l, cap2, q2, by omega, hid (by rw [hg.out]; exact hl2.out), rfl, by go_num, hid (by rw [hg.out]; exact hO2.out), hN2, hid hB2.out.drew, hX2⟩
              case measure => simp [intOf]; omega
            · have hdpos : 0 ≤ d := by rw [← hd, nwF_no hYin, Hx.out]; have := HPs.out Y; omega
              have hdb : decide (0 ≤ d) = true := decide_eq_true hdpos
              have hg := hid (show mdU f es xs (j + 1) = mdU f es xs j ++ [(a, d)] by rw [mdU_yes (show outG es xs j = true by unfold outG; rw [hX0, hY0, decide_eq_false hXin, decide_eq_false hYin]; rfl), hX0, hY0, ← ha, ← hd, nwF_no hXin, nwF_no hYin])
              clear ha hd hX0 hY0 hok hXin hYin
              go_wp2
              go_region
              go_wp2_with (at_builtin; go_must (refine wpList_append_lies _ rfl (.tmp 76) (.tmp 80) 26 rfl (w.heap.size + 1 + 1) 57 i0 (.agg #[.int .i64 0, .int .i64 0]) 2 16 Try.underlying26 Hi.out hz0 hz1 hz2 rfl (by decide) (.slice q2 l cap2) l _ rfl (World.ownsRow.alloc (show wi.drew.ownsRow _ _ _ _ _ _ from hO2.out.1) _) ⟨wi.heap.size, 0, none⟩ 1 1 [.int .i64 a, .int .i64 d] rfl rfl (World.news_of_block (cs := #[.int .i64 a, .int .i64 d]) (t := 57) (fr := (0, 0)) (heap_alloc_new _ _)) (by simp [Value.oneCell']) (by decide) (by unfold maxLen; omega) (by omega) (by simp; omega) (wi.heap.size + 1) (by simp) ?_); intro g cap' w1 hown1 hgrow1 hlie hg1; have Hown := hid hown1; have Hgrow := hid hgrow1; have Hlie := hid hlie; clear hown1 hgrow1 hlie)
              go_roundw
              case rel =>
                refine ⟨j + 1, l + 1, cap', some ⟨g, 0, none⟩, by omega, hid (by rw [hg.out, List.length_append, hl2.out]; rfl), rfl, by go_num, hid ⟨by rw [hg.out, edgeVals_append]; exact Hown.out, fun g' e => ?_⟩, hid ?_, hid ?_, hid ?_⟩
                · have e : g = g' := Option.some.inj e
                  rw [← e]
                  rcases Hlie.out with h | h
                  · exact hO2.out.2 g h
                  · have h3 := hgl
                    first | omega | (simp at h; omega)
                · exact OwnI.keep (OwnI.alloc (show OwnI wi.drew gN cap (nmL f xs k) from hN2.out) _) (Hgrow.out.block gN (by simp; omega) (fun e => hO2.out.2 gN e.symm rfl))
                · exact (hB2.out.drew.alloc hB2.out.size _).grown Hgrow.out (by simp; have := hB2.out.size; omega) (fun j hj => by have := (hrow j hj).1; omega)
                · exact ((show Box wi.drew w.heap.size k (some ⟨b, off, none⟩) n c from hX2.out).on (on_alloc _ _)).kept Hgrow.out (fun h => by have := (hrow _ h.symm).1; omega)
              case measure => simp [intOf]; omega
        · obtain rfl : j = n := by omega
          go_wp2
          obtain rfl : (mdU f es xs j).length = l := hl2.out
          go_ret2
          exact ⟨gN, cap, q2, cap2, rfl, FreshE.less ⟨hO2.out.1, rfl⟩ (by omega), ⟨by omega, hN2.out, hO2.out.2⟩, hB2.out⟩

end Go.Proofs.Ytfdlhdgmbjdhbaa
