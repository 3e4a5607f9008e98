/- The other ends of the edges at a vertex, without one of the edges, in the model. -/
import Derived.Test.YtemhbbggnednpaaStrA
import Derived.Test.YtemhbbggnednpaaSpecAt
import Derived.Test.YtemhbbggnednpaaSpecD
import Derived.Deep.AppendLies
import Derived.Deep.RegionHeld3
import Derived.BigRegion
namespace Go.Proofs.Ytemhbbggnednpaa
open Go.RowKit Go.Lib

/-- The k-th edge at a vertex. -/
def nthO (es : List (Int × Int)) (v : Int) (k : Nat) : Nat := (onL es v).getD k 0
/-- The other ends along the first k edges at a vertex that are not x. -/
def exU (es : List (Int × Int)) (v x : Int) (k : Nat) : List Int := ((List.range k).filter fun i => !decide ((nthO es v i : Int) = x)).map fun i => othE es v (nthO es v i)
theorem exU_yes {es : List (Int × Int)} {v x : Int} {k : Nat} (h : ¬ (nthO es v k : Int) = x) : exU es v x (k + 1) = exU es v x k ++ [othE es v (nthO es v k)] := by
  unfold exU
  rw [List.range_succ, List.filter_append, List.map_append]
  simp [h]
theorem exU_no {es : List (Int × Int)} {v x : Int} {k : Nat} (h : (nthO es v k : Int) = x) : exU es v x (k + 1) = exU es v x k := by
  unfold exU
  rw [List.range_succ, List.filter_append, List.map_append]
  simp [h]
theorem exU_len (es : List (Int × Int)) (v x : Int) (k : Nat) : (exU es v x k).length ≤ k := by
  unfold exU
  rw [List.length_map]
  exact Nat.le_trans (List.length_filter_le _ _) (by simp)
theorem nth_in {s : Int} {es : List (Int × Int)} (g : IsG s es) {v : Int} (hv : 0 ≤ v ∧ v < s) {k : Nat} (hk : k < 3) : nthO es v k < es.length ∧ onE es v (nthO es v k) = true ∧ eI (atF es v) k = (nthO es v k : Int) := by
  have h3 := atF_three g hv.1 hv.2
  rw [onL_at, List.length_map] at h3
  have hm : nthO es v k ∈ onL es v := by
    unfold nthO
    rw [List.getD_eq_getElem?_getD, List.getElem?_eq_getElem (by omega)]
    exact List.getElem_mem _
  refine ⟨(onL_mem.1 hm).1, (onL_mem.1 hm).2, ?_⟩
  rw [onL_at, eI_lt (by rw [List.length_map]; omega), List.getElem_map]
  unfold nthO
  rw [List.getD_eq_getElem?_getD, List.getElem?_eq_getElem (by omega)]
  rfl
theorem exU_all {s : Int} {es : List (Int × Int)} (g : IsG s es) {v : Int} (hv : 0 ≤ v ∧ v < s) : exU es v (-1) 3 = endsF es v := by
  have h3 := atF_three g hv.1 hv.2
  rw [onL_at, List.length_map] at h3
  unfold exU endsF
  rw [List.filter_eq_self.2 fun i _ => by first | (simp; done) | (simp; omega)]
  refine List.ext_getElem (by simp [h3]) fun i h1 h2 => ?_
  rw [List.getElem_map, List.getElem_map, List.getElem_range]
  congr 1
  unfold nthO
  rw [List.getD_eq_getElem?_getD, List.getElem?_eq_getElem (by simpa using h2)]
  rfl

/-- An append at a step that is wanted, whatever its guard. -/
theorem step_append_wantedX {P : Program} {w : World} {ops : Array Oper} {o : Oper} {a : Act} {K : Act → World → Prop} {Q : Exit → Act → World → Prop} {E : Prop} (hw : Region.wanted o (yielded ops a.tmps) = true) (s x : Operand) (t : TypeId)
    (ho : o.op = .call { callee := .builtin .append, args := #[s, x], argTypes := #[t, t] })
    (base : Nat) (e : TypeId) (i : TypeInfo) (z : Value) (size bytes : Nat) (ht : P.underlying t = some (.slice e)) (hi : P.info? e = some i) (hz : i.zero = some z)
    (hsize : i.size = size) (hby : i.bytes = bytes) (hzs : z.cells.size = size) (hsz : 0 < size)
    (v : Value) (n : Nat) (xs : List Value) (hs : a.eval s = v) (hown : w.ownsRow base e size v n xs)
    (ad : Addr) (m c : Nat) (news : List Value) (hx : a.eval x = .slice (some ad) m c) (hl : news.length = m * size) (hnews : ∀ j u, news[j]? = some u → w.cell? (ad.add j) = some u) (h1 : ∀ u ∈ news, u.oneCell' = true)
    (hm : 0 < m) (h63 : n + m ≤ maxLen) (hbytes : (n + m) * bytes ≤ 140737488355328) (hbase : base ≤ w.heap.size)
    (h : ∀ g cap w', w'.ownsRow base e size (.slice (some ⟨g, 0, none⟩) (n + m) cap) (n + m) (xs ++ news) → w.grownBy w' v.ownBlock → (v.ownBlock = some g ∨ g = w.heap.size) → g < w'.heap.size → K (a.put o.dst (.slice (some ⟨g, 0, none⟩) (n + m) cap)) w') :
    if Region.wanted o (yielded ops a.tmps) = true then Oper.wp P o a w K Q else E := by
  rw [if_pos hw]
  exact wp_append_lies w s x t ho base e i z size bytes ht hi hz hsize hby hzs hsz v n xs hs hown ad m c news hx hl hnews h1 hm h63 hbytes hbase w.heap.size rfl h

set_option maxRecDepth 100000 in
set_option maxHeartbeats 8000000 in
theorem sEndsX_any (s v x : Int) (b off n c : Nat) (es : List (Int × Int)) (w : World) (hn : es.length = n) (hr : ReadsE w b off es) (g : IsG s es) (hv : 0 ≤ v ∧ v < s) :
    Calls Try.prog 38 #[.agg #[.int .i64 s, .slice (some ⟨b, off, none⟩) n c], .int .i64 v, .int .i64 x] w fun e w' => ∃ q cap, e = .returned (.slice q (exU es v x 3).length cap) ∧ FreshI w.heap.size w' q (exU es v x 3).length cap (exU es v x 3) ∧ Below w.heap.size w w' := by
  have hn30 : n ≤ 30 := by have := isG_len g; omega
  have hs20 : s ≤ 20 := g.1.1.2.1
  have Hn := hid hn
  have Hr := hid hr
  have G := hid g
  have hv1 := hv.1
  have hv2 := hv.2
  obtain ⟨j0, hj, hy0, hy1, hy2⟩ := info_parts infoInt
  have Hj := hid hj
  clear hn hr g hv hj
  go_enter Try.func38, Try.ntmps38
  go_wp2_with fail
  refine (sAt_any s v b off n c es _ Hn.out hn30 (Hr.out.on (on_alloc _ _))).mono ?_
  rw [atF_three G.out hv1 hv2]
  rintro e w2 ⟨qa, ca, rfl, hfa, hb2⟩
  have HX2 := hid ((Box.new w s (some ⟨b, off, none⟩) n c 28).on hb2)
  have HB2 := hid (bfrom (w := w) (on_alloc _ _) hb2)
  rcases hfa.form with ⟨_, hk0, _⟩ | ⟨ga, rfl, hga, hoa⟩
  · omega
  have HA2 := hid hoa.reads
  have hal := hoa.lt
  clear hfa hb2 hoa
  go_wp2_with fail
  have HX3 : Hid (Box (w2.alloc (.cells #[] 2)) w.heap.size s (some ⟨b, off, none⟩) n c) := hid (HX2.out.on (on_alloc _ _))
  have HA3 := hid (HA2.out.on (on_alloc w2 (.cells #[] 2)))
  have HB3 := hid (bfrom HB2.out (on_alloc w2 (.cells #[] 2)))
  go_loopw [8, 9] (fun u i wr => ∃ (k l cap : Nat) (q : Option Addr), k ≤ 3 ∧ Hid ((exU es v x k).length = l) ∧ u = .slice q l cap ∧ i = .int .i64 k ∧ Hid (wr.ownsRow w2.heap.size 2 1 (.slice q l cap) l (intVals (exU es v x k))) ∧ Hid (ReadsI wr ga 0 (atF es v)) ∧ Hid (Below w2.heap.size w2 wr) ∧ Hid (Box wr w.heap.size s (some ⟨b, off, none⟩) n c) ∧ w2.heap.size < wr.heap.size) (fun _ i _ => 3 - (intOf i).toNat)
  case atStart => exact ⟨0, 0, 0, _, Nat.zero_le _, hid rfl, rfl, rfl, hid (by have h := World.ownsRow_made (base := w2.heap.size) (e := 2) (size := 1) w2 #[] 0 (by omega) (Nat.zero_le _) rfl; exact h), HA3, hid (on_alloc _ _), HX3, by simp⟩
  case round =>
    clear HX3 HA3
    obtain ⟨k, l, cap, q, hk, hl, rfl, rfl, hO, hAt, hB, hX, hzr⟩ := hrel
    have hx := hX.out.1
    have hy := hX.out.2
    have hlx := hX.out.lt
    obtain ⟨wo, rfl⟩ : ∃ wo : World, wo = wr := ⟨_, rfl⟩
    have HBw := hid (show Below w.heap.size w wo from HB2.out.trans (hB.out.mono (by have := HB2.out.size; omega)))
    by_cases hlt : k < 3
    · obtain ⟨t1, t2, t3⟩ := nth_in G.out ⟨hv1, hv2⟩ hlt
      have hcA := hAt.out k (by rw [atF_three G.out hv1 hv2]; exact hlt)
      rw [Nat.zero_add, t3] at hcA
      obtain ⟨E, hE⟩ : ∃ E, nthO es v k = E := ⟨_, rfl⟩
      rw [hE] at t1 t2 hcA
      have hgl := World.block_lt_of_cell? wo _ hcA
      have hll : l ≤ k := by rw [← hl.out]; exact exU_len es v x k
      have T := hid (And.intro t1 t2)
      by_cases hx1 : (E : Int) = x
      · have hxb : ((E : Int) != x) = false := by simp [hx1]
        have hU := hid (exU_no (v := v) (show (nthO es v k : Int) = x by rw [hE]; exact hx1))
        clear hx1 hE t1 t2 t3
        go_wp2_with fail
        go_roundw
        case rel => exact ⟨k + 1, l, cap, q, by omega, hid (by rw [hU.out]; exact hl.out), rfl, by go_num, hid (by rw [hU.out]; exact hO.out), hAt, hB, hX, hzr⟩
        case measure => simp [intOf]; omega
      · have hxb : ((E : Int) != x) = true := by simp [hx1]
        have hU := hid (exU_yes (v := v) (show ¬ (nthO es v k : Int) = x by rw [hE]; exact hx1))
        rw [hE] at hU
        have hrow : ∀ g, (Value.slice q l cap).ownBlock = some g → w2.heap.size ≤ g ∧ g < wo.heap.size := hO.out.lt
        have hei := isG_pos G.out t1
        obtain ⟨V, hV⟩ : ∃ V, othE es v E = V := ⟨_, rfl⟩
        have HV := hid hV
        rw [hV] at hU
        have hVe : eA es E + eB es E - v = V := hV
        clear hx1 hE t1 t2 t3 hV
        go_upto_region 6 with fail
        go_region_held3 (fun w' => w'.cell? ⟨w.heap.size, 0, none⟩ = some (.int .i64 s) ∧ w'.cell? ⟨w.heap.size, 1, none⟩ = some (.slice (some ⟨b, off, none⟩) n c) ∧ w'.cell? ⟨ga, k, none⟩ = some (.int .i64 (E : Int))) (first | go_keep | exact ⟨hx7, hy7, ha7⟩ | exact ⟨hx6, hy6, ha6⟩) (first
          | (go_at_call 79; refine (sOther_any s E v b off n c E es _ (by omega) Hn.out (Hr.out.on HBw.out.drew) rfl (by have h := T.out.1; have := Hn.out; omega) ⟨hei.1, by omega⟩ ⟨hei.2.2.1, by omega⟩ ⟨hv1, by omega⟩).mono ?_; rw [hVe]; rintro e' w6 ⟨rfl, hb6⟩; have hB6 : Below wo.heap.size wo w6 := bfrom (Below.refl _ _).drew hb6; have hz6 := hB6.size; have hx6 := ((bcells hB6).1 _ _ hlx).trans hx; have hy6 := ((bcells hB6).1 _ _ hlx).trans hy; have ha6 := ((bcells hB6).1 _ _ hgl).trans hcA)
          | (refine step_append_wantedX (by rfl) (.tmp 24) (.tmp 32) 38 (by rfl) w2.heap.size 2 j0 (.int .i64 0) 1 8 Try.underlying38 Hj.out hy0 hy1 hy2 rfl (by decide) (.slice q l cap) l _ (by rfl) (World.ownsRow.alloc (FreshI.on ⟨hO.out, hl.out⟩ hB6).1 _) ⟨w6.heap.size, 0, none⟩ 1 1 [.int .i64 V] (by rfl) rfl (World.news_of_block (cs := #[.int .i64 V]) (t := 2) (fr := (0, 0)) (heap_alloc_new _ _)) (by simp [Value.oneCell']) (by decide) (by unfold maxLen; omega) (by omega) (by rw [World.size_alloc]; omega) ?_; intro g7 cap7 w7 hown7 hgr7 hlie7 hgl7; have hx7 := (hgr7.cell_far (a := ⟨w.heap.size, 0, none⟩) (by simp; omega) (fun h => by have h2 := (hrow _ h.symm).1; have h3 := HX2.out.lt; simp at h2; omega)).trans (((bcells (on_alloc w6 _)).1 _ _ (by omega)).trans hx6); have hy7 := (hgr7.cell_far (a := ⟨w.heap.size, 1, none⟩) (by simp; omega) (fun h => by have h2 := (hrow _ h.symm).1; have h3 := HX2.out.lt; simp at h2; omega)).trans (((bcells (on_alloc w6 _)).1 _ _ (by omega)).trans hy6); have ha7 := (hgr7.cell_far (a := ⟨ga, k, none⟩) (by simp; omega) (fun h => by have h2 := (hrow _ h.symm).1; simp at h2; omega)).trans (((bcells (on_alloc w6 _)).1 _ _ (by omega)).trans ha6); have Hown := hid hown7; have Hgrow := hid hgr7; have HB6 := hid hB6; clear hown7 hgr7 hlie7))
        all_goals
          go_wp2
          go_roundw
          case rel =>
            refine ⟨k + 1, l + 1, cap7, some ⟨g7, 0, none⟩, by omega, hid (by rw [hU.out, List.length_append, hl.out]; rfl), rfl, by go_num, hid (by rw [hU.out, intVals_append]; exact Hown.out), hid ?_, hid ?_, hid ?_, ?_⟩
            · exact ReadsI.keep hAt.out ((Hgrow.out.block ga (by simp; omega) (fun e => by have h2 := (hrow _ e.symm).1; omega)).trans ((Below.heap_alloc w6 _ ga (by omega)).trans (HB6.out.block ga hgl)))
            · exact ((hB.out.trans (HB6.out.mono (by omega))).alloc (by omega) _).grown Hgrow.out (by simp; omega) (fun j e => (hrow j e).1)
            · exact ((hX.out.on HB6.out).on (on_alloc _ _)).kept Hgrow.out (fun h => by have h2 := (hrow _ h.symm).1; have h3 := HX2.out.lt; omega)
            · have h2 := Hgrow.out.size
              simp at h2
              omega
          case measure => simp [intOf]; omega
    · obtain rfl : k = 3 := by omega
      go_wp2_with fail
      obtain rfl : (exU es v x 3).length = l := hl.out
      go_ret
      exact ⟨q, cap, rfl, FreshI.less ⟨hO.out, rfl⟩ (by have := HB2.out.size; omega), HBw.out⟩

end Go.Proofs.Ytemhbbggnednpaa
