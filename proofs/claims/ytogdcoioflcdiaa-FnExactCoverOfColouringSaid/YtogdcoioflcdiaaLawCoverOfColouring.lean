/- The law on CoverOfColouring, walked out of the contracts: it returns true, whatever lies in memory. -/
import Derived.Test.YtogdcoioflcdiaaCyX
import Derived.Test.YtogdcoioflcdiaaCycO
import Derived.Test.YtogdcoioflcdiaaPrs
import Derived.Test.YtogdcoioflcdiaaPlc
import Derived.Test.YtogdcoioflcdiaaFlat
import Derived.Test.YtogdcoioflcdiaaCyM
import Derived.Test.YtogdcoioflcdiaaSeesM
import Derived.Test.YtogdcoioflcdiaaColI
import Derived.Test.YtogdcoioflcdiaaLawsF
import Derived.Deep.RegionWith
import Derived.Deep.DeepCutAuto

/- CoverOfColouring at any argument, in the model and in the program. -/
/- The cover of a colouring, plainly: the edges without one colour are an even set. No program is named here. -/
namespace Go.Proofs.Ytogdcoioflcdiaa
open Go.RowKit

/-- The edges that have another colour. -/
def colSet (cs : List Int) (l : Int) (k : Nat) : List Int := numsB (fun e => !(eI cs e == l)) k
theorem numsB_set (p : Nat → Bool) (m : Nat) : isSetP (m : Int) (numsB p m) := by
  intro i hi
  have ha := numsB_asc p m
  have h0 : eI (numsB p m) i ∈ numsB p m := by rw [eI_lt hi]; exact List.getElem_mem hi
  obtain ⟨j, hj, _, e⟩ := numsB_mem.1 h0
  refine ⟨⟨by omega, by omega⟩, fun h => ?_⟩
  rw [eI_lt (show i - 1 < (numsB p m).length by omega), eI_lt hi]
  exact List.pairwise_iff_getElem.1 ha (i - 1) i (by omega) hi (by omega)
theorem colSet_set (cs : List Int) (l : Int) (m : Nat) : isSetP (m : Int) (colSet cs l m) := numsB_set _ _
theorem colSet_even {N : Nat} {es : List (Int × Int)} {cs : List Int} (g : IsG N es) (gc : isColP es cs) {l : Int} (hl : 0 ≤ l ∧ l < 3) : evenP N es (colSet cs l es.length) := by
  intro v hv
  rw [cnt_on (colSet_set _ _ _)]
  obtain ⟨x, y, z, hL, h1, h2, h3⟩ := onL_three g (v := (v : Int)) ⟨by omega, by omega⟩
  have hx := onL_mem.1 (show x ∈ onL es v by rw [hL]; simp)
  have hy := onL_mem.1 (show y ∈ onL es v by rw [hL]; simp)
  have hz := onL_mem.1 (show z ∈ onL es v by rw [hL]; simp)
  have cx := (gc.2 x hx.1).1
  have cy := (gc.2 y hy.1).1
  have cz := (gc.2 z hz.1).1
  have n1 : eI cs x ≠ eI cs y := fun e => h1 (col_one g gc hx.1 hy.1 hx.2 hy.2 e)
  have n2 : eI cs x ≠ eI cs z := fun e => h2 (col_one g gc hx.1 hz.1 hx.2 hz.2 e)
  have n3 : eI cs y ≠ eI cs z := fun e => h3 (col_one g gc hy.1 hz.1 hy.2 hz.2 e)
  have hm : ∀ f : Nat, f < es.length → ((f : Int) ∈ colSet cs l es.length ↔ eI cs f ≠ l) := fun f hf => by
    unfold colSet
    rw [numsB_mem]
    constructor
    · rintro ⟨i, _, h, e⟩
      have : f = i := by omega
      subst this
      simpa using h
    · intro h
      exact ⟨f, hf, by simpa using h, rfl⟩
  rw [hL]
  simp only [List.filter_cons, List.filter_nil, hm x hx.1, hm y hy.1, hm z hz.1]
  rcases (by omega : eI cs x = l ∨ eI cs y = l ∨ eI cs z = l) with h | h | h
  · have e2 : eI cs y ≠ l := by omega
    have e3 : eI cs z ≠ l := by omega
    simp [h, e2, e3]
  · have e2 : eI cs x ≠ l := by omega
    have e3 : eI cs z ≠ l := by omega
    simp [h, e2, e3]
  · have e2 : eI cs x ≠ l := by omega
    have e3 : eI cs y ≠ l := by omega
    simp [h, e2, e3]

/-- The first cycles of the cover, by the colour that is left out: 2, 1, 0. -/
def cvU (es : List (Int × Int)) (cs : List Int) : Nat → List (List Int)
  | 0 => []
  | i + 1 => cvU es cs i ++ cycX es (colSet cs (2 - (i : Int)) es.length) (colSet cs (2 - (i : Int)) es.length).length
def inR (cs : List Int) : Prop := ∀ e, e < cs.length → 0 ≤ eI cs e ∧ eI cs e < 3
instance (cs : List Int) : Decidable (inR cs) := by unfold inR; infer_instance
/-- The edges at a vertex have different numbers. -/
def difP (es : List (Int × Int)) (cs : List Int) (v : Int) : Prop := ∀ i j, i < 3 → j < 3 → i ≠ j → eI cs (eI (atF es v) i).toNat ≠ eI cs (eI (atF es v) j).toNat
theorem dif_col {s : Int} {es : List (Int × Int)} {cs : List Int} (g : IsG s es) (hl : cs.length = es.length) (hr : inR cs) (h : ∀ v : Nat, (v : Int) < s → difP es cs v) : isColP es cs := by
  refine ⟨hl, fun e he => ⟨hr e (by omega), fun j hj hon hc => ?_⟩⟩
  have key : ∀ v : Int, 0 ≤ v ∧ v < s → onE es v e = true → onE es v j = true → False := fun v hv h1 h2 => by
    obtain ⟨a, ha, ea⟩ := atF_has he h1
    obtain ⟨b, hb, eb⟩ := atF_has (show j < es.length by omega) h2
    rw [atF_three g hv.1 hv.2] at ha hb
    have hab : a ≠ b := fun e' => by rw [e', eb] at ea; omega
    have h3 := h v.toNat (by omega) a b ha hb hab
    rw [Int.toNat_of_nonneg hv.1, ea, eb, Int.toNat_natCast, Int.toNat_natCast] at h3
    exact h3 hc.symm
  obtain ⟨r1, r2, r3, r4, _⟩ := g.1.2 e he
  rcases hon with h1 | h1
  · exact key (eA es e) ⟨by omega, by omega⟩ (by unfold onE; simp) h1
  · exact key (eB es e) ⟨by omega, by omega⟩ (by unfold onE; simp) h1
theorem col_dif {s : Int} {es : List (Int × Int)} {cs : List Int} (g : IsG s es) (gc : isColP es cs) {v : Nat} (hv : (v : Int) < s) : difP es cs v := by
  intro i j hi hj hij
  obtain ⟨x, y, z, hL, h1, h2, h3⟩ := onL_three g (v := (v : Int)) ⟨by omega, hv⟩
  have hx := onL_mem.1 (show x ∈ onL es v by rw [hL]; simp)
  have hy := onL_mem.1 (show y ∈ onL es v by rw [hL]; simp)
  have hz := onL_mem.1 (show z ∈ onL es v by rw [hL]; simp)
  have n1 : eI cs x ≠ eI cs y := fun e => h1 (col_one g gc hx.1 hy.1 hx.2 hy.2 e)
  have n2 : eI cs x ≠ eI cs z := fun e => h2 (col_one g gc hx.1 hz.1 hx.2 hz.2 e)
  have n3 : eI cs y ≠ eI cs z := fun e => h3 (col_one g gc hy.1 hz.1 hy.2 hz.2 e)
  have hA : atF es v = [(x : Int), y, z] := by rw [onL_at, hL]; rfl
  rw [hA]
  rcases (by omega : i = 0 ∨ i = 1 ∨ i = 2) with rfl | rfl | rfl <;> rcases (by omega : j = 0 ∨ j = 1 ∨ j = 2) with rfl | rfl | rfl <;> first | exact absurd rfl hij | exact n1 | exact n1.symm | exact n2 | exact n2.symm | exact n3 | exact n3.symm
theorem cvU_flat {N : Nat} {es : List (Int × Int)} {cs : List Int} (g : IsG N es) (gc : isColP es cs) : ∀ i, i ≤ 3 → (cvU es cs i).flatten.length ≤ i * es.length
  | 0, _ => by simp [cvU]
  | i + 1, hi => by
    have h1 := cvU_flat g gc i (by omega)
    have h2 := colSet_even g gc (l := 2 - (i : Int)) ⟨by omega, by omega⟩
    have h3 := flat_le g (colSet_set cs (2 - (i : Int)) es.length) h2 (Nat.le_refl _)
    have h4 : (colSet cs (2 - (i : Int)) es.length).length ≤ es.length := numsB_len _ _
    show (cvU es cs i ++ _).flatten.length ≤ _
    rw [List.flatten_append, List.length_append, Nat.add_mul]
    omega
theorem cvU_len (es : List (Int × Int)) (cs : List Int) : ∀ i, (cvU es cs i).length ≤ i * es.length
  | 0 => by simp [cvU]
  | i + 1 => by
    have h1 := cvU_len es cs i
    have h3 := cycX_len es (colSet cs (2 - (i : Int)) es.length) (colSet cs (2 - (i : Int)) es.length).length
    have h4 : (colSet cs (2 - (i : Int)) es.length).length ≤ es.length := numsB_len _ _
    show (cvU es cs i ++ _).length ≤ _
    rw [List.length_append, Nat.add_mul]
    omega

def fCoverOfColouring (s : Int) (es : List (Int × Int)) (cs : List Int) : List (List Int) × Int := if IsG s es then (if cs.length = es.length ∧ inR cs then (if isColP es cs then (cvU es cs 3, 0) else ([], 5)) else ([], 2)) else ([], 1)
theorem fCoverOfColouring_len (s : Int) (es : List (Int × Int)) (cs : List Int) (_ : es.length ≤ 1048576) (_ : cs.length ≤ 1048576) : (fCoverOfColouring s es cs).1.length ≤ 1048576 := by
  unfold fCoverOfColouring
  split
  · rename_i g
    have h1 := isG_len g
    have h2 := cvU_len es cs 3
    split
    · split
      · show (cvU es cs 3).length ≤ _
        omega
      · simp
    · simp
  · simp
theorem fCoverOfColouring_sum (s : Int) (es : List (Int × Int)) (cs : List Int) (_ : es.length ≤ 1048576) (_ : cs.length ≤ 1048576) : 1 + sumLL (fCoverOfColouring s es cs).1 (fCoverOfColouring s es cs).1.length ≤ 1048576 := by
  unfold fCoverOfColouring
  split
  · rename_i g
    have h1 := isG_len g
    split
    · split
      · rename_i gc
        have h2 := cvU_flat (N := s.toNat) (by have h0 := g.1.1.1; rw [Int.toNat_of_nonneg (by omega)]; exact g) gc 3 (Nat.le_refl _)
        rw [sumLL_flat]
        show 1 + (cvU es cs 3).flatten.length ≤ _
        omega
      · simp [sumLL]
    · simp [sumLL]
  · simp [sumLL]

end Go.Proofs.Ytogdcoioflcdiaa

/- CoverOfColouring in the program: colours, the edges of two colours, rows of several blocks behind each other. -/
namespace Go.Proofs.Ytogdcoioflcdiaa
open Go.RowKit Go.Shelf

set_option maxRecDepth 100000 in
set_option maxHeartbeats 4000000 in
theorem iAreCol_any (p : Option Addr) (m f n : Nat) (cs : List Int) (w : World) (hl : cs.length = m) (hm : m ≤ 1048576) (hn : n ≤ 1048576) (h0 : 0 < n) (hr : SeesI w p cs) :
    Calls Try.prog 72 #[.slice p m f, .int .i64 n] w fun e' w' => e' = .returned (.bool (decide (m = n ∧ inR cs))) ∧ Below w.heap.size w w' := by
  have Hl := hid hl
  have Hr := hid hr
  obtain ⟨r, hR⟩ : ∃ r, decide (m = n ∧ inR cs) = r := ⟨_, rfl⟩
  rw [hR]
  have HR := hid hR
  clear hl hr hR
  by_cases h : m = n
  · obtain ⟨b, off, rfl, hrd⟩ : ∃ b off, p = some ⟨b, off, none⟩ ∧ ReadsI w b off cs := by
      rcases Hr.out with h2 | h2
      · have := Hl.out; rw [h2] at this; simp at this; omega
      · exact h2
    subst h
    have HD := hid (show decide (∀ i, i < m → 0 ≤ eI cs i ∧ eI cs i < 3) = r by
      rw [← HR.out, decide_eq_decide]
      constructor
      · exact fun h => ⟨rfl, fun e he => h e (by rw [← Hl.out]; exact he)⟩
      · exact fun h i hi => h.2 i (by rw [Hl.out]; exact hi))
    have Hrd := hid hrd
    clear hrd
    go_enter Try.func72, Try.ntmps72
    go_wp2_with (go_at_call 108; refine (iAreBelow_any 3 b off m f cs _ Hl.out hm Hrd.out).mono ?_; rw [HD.out]; rintro e' w' ⟨rfl, rfl⟩)
    go_ret
    exact ⟨rfl, Below.refl _ _⟩
  · have hne : ¬ ((m : Int) = (n : Int)) := by omega
    have HF := hid (show r = false by rw [← HR.out]; exact decide_eq_false (fun h2 => h h2.1))
    go_enter Try.func72, Try.ntmps72
    go_wp2_with fail
    go_ret
    rw [HF.out]
    exact ⟨rfl, Below.refl _ _⟩

/-- The edges that have one of two colours. -/
def colTwo (cs : List Int) (x y : Int) (k : Nat) : List Int := numsB (fun e => eI cs e == x || eI cs e == y) k
theorem colTwo_set {cs : List Int} (h : inR cs) {i : Nat} (hi : i < 3) : ∀ k, k ≤ cs.length → colTwo cs (prA i) (prB i) k = colSet cs (2 - (i : Int)) k := by
  intro k hk
  unfold colTwo colSet numsB
  congr 1
  refine List.filter_congr fun e he => ?_
  have h1 := h e (by have := List.mem_range.1 he; omega)
  generalize eI cs e = x at h1
  rcases (by omega : i = 0 ∨ i = 1 ∨ i = 2) with rfl | rfl | rfl <;> rcases (by omega : x = 0 ∨ x = 1 ∨ x = 2) with rfl | rfl | rfl <;> rfl

set_option maxRecDepth 100000 in
set_option maxHeartbeats 8000000 in
theorem iEdgesOf_any (cb co n f : Nat) (x y : Int) (cs : List Int) (w : World) (hl : cs.length = n) (hn : n ≤ 30) (hr : ReadsI w cb co cs) :
    Calls Try.prog 75 #[.slice (some ⟨cb, co, none⟩) n f, .int .i64 x, .int .i64 y] w fun e' w' => ∃ q cap, e' = .returned (.slice q (colTwo cs x y n).length cap) ∧ FreshI w.heap.size w' q (colTwo cs x y n).length cap (colTwo cs x y n) ∧ Below w.heap.size w w' := by
  have Hl := hid hl
  have Hr := hid hr
  obtain ⟨j0, hj, hy0, hy1, hy2⟩ := info_parts infoInt
  have Hj := hid hj
  clear hl hr hj
  go_enter Try.func75, Try.ntmps75
  go_wp2
  go_loopw [7, 12] (fun u e wx => ∃ (k kl cap' : Nat) (q' : Option Addr), k ≤ n ∧ Hid (kl = (colTwo cs x y k).length) ∧ u = .slice q' kl cap' ∧ e = .int .i64 k ∧ Hid (wx.ownsRow w.heap.size 2 1 (.slice q' kl cap') kl (intVals (colTwo cs x y k))) ∧ Hid (Below w.heap.size w wx)) (fun _ e _ => n - (intOf e).toNat)
  case atStart => exact ⟨0, 0, 0, none, Nat.zero_le _, hid rfl, rfl, rfl, hid (World.ownsRow_nil _ _ _ _), hid (Below.refl _ _)⟩
  case round =>
    obtain ⟨k, kl, cap', q', hk, hkl, rfl, rfl, hO, hB⟩ := hrel
    have hBs := hB.out.size
    have hkl30 : kl ≤ 30 := by have := hkl.out; have h := numsB_len (fun e => eI cs e == x || eI cs e == y) k; unfold colTwo at this; omega
    obtain ⟨wx, rfl⟩ : ∃ wx : World, wx = wr := ⟨_, rfl⟩
    by_cases hltk : k < n
    · have hltk' : (k : Int) < (n : Int) := by omega
      have hc1 := (Hr.out.on hB.out) k (by have := Hl.out; omega)
      have hcbr : cb < wx.heap.size := (Hr.out.on hB.out).lt (by have := Hl.out; omega)
      obtain ⟨z, hz⟩ : ∃ z, eI cs k = z := ⟨_, rfl⟩
      rw [hz] at hc1
      have HZ := hid hz
      clear hz
      have hrow : ∀ j, (Value.slice q' kl cap').ownBlock = some j → w.heap.size ≤ j ∧ j < wx.heap.size := hO.out.lt
      cases hz1 : (z == x) <;> cases hz2 : (z == y)
      case false.false =>
        have HST := hid (show colTwo cs x y (k + 1) = colTwo cs x y k from numsB_no (by rw [HZ.out, hz1, hz2]; rfl))
        go_wp2
        go_roundw
        case rel => exact ⟨k + 1, kl, cap', q', by omega, hid (by rw [HST.out]; exact hkl.out), rfl, by go_num, hid (by rw [HST.out]; exact hO.out), hB⟩
        case measure => simp [intOf]; omega
      all_goals
        have HST := hid (show colTwo cs x y (k + 1) = colTwo cs x y k ++ [(k : Int)] from numsB_yes (by rw [HZ.out, hz1, hz2]; rfl))
        go_wp2_with (at_builtin; refine wpList_append_own _ rfl (.tmp 25) (.tmp 27) 25 rfl w.heap.size 2 j0 (.int .i64 0) 1 8 Try.underlying25 Hj.out hy0 hy1 hy2 rfl (by decide) (.slice q' kl cap') kl (intVals (colTwo cs x y k)) rfl (hO.out.alloc _) ⟨wx.heap.size, 0, none⟩ 1 1 [.int .i64 (k : Int)] rfl rfl (cell_one_new _ _ _) (by simp [Value.oneCell']) (by unfold maxLen; omega) (by omega) (by simp; omega) ?_; intro v' w9 hown9 hgrow9 _; obtain ⟨g9, cap9, rfl⟩ := ownsRow_succ hown9)
        go_roundw
        case rel => exact ⟨k + 1, kl + 1, cap9, some ⟨g9, 0, none⟩, by omega, hid (by rw [HST.out, List.length_append, ← hkl.out]; rfl), rfl, by go_num, hid (by rw [HST.out, intVals_append]; exact hown9), hid ((hB.out.alloc hBs _).grown hgrow9 (by simp; omega) (fun j hj => (hrow j hj).1))⟩
        case measure => simp [intOf]; omega
    · have hkn := hid (show k = n by omega)
      go_wp2
      go_ret
      exact ⟨q', cap', by rw [← hkn.out, ← hkl.out]; rfl, by rw [← hkn.out, ← hkl.out]; exact ⟨hO.out, hkl.out.symm⟩, hB.out⟩

end Go.Proofs.Ytogdcoioflcdiaa

/- Rows of several blocks, put behind each other in a box. -/
namespace Go.Proofs.Ytogdcoioflcdiaa
open Go.RowKit Go.Shelf

theorem lI_appL {Ls Ms : List (List Int)} {i : Nat} (h : i < Ls.length) : lI (Ls ++ Ms) i = lI Ls i := by
  unfold lI
  rw [List.getD_eq_getElem?_getD, List.getD_eq_getElem?_getD, List.getElem?_append_left h]
theorem lI_appR {Ls Ms : List (List Int)} {i : Nat} (h : Ls.length ≤ i) : lI (Ls ++ Ms) i = lI Ms (i - Ls.length) := by
  unfold lI
  rw [List.getD_eq_getElem?_getD, List.getD_eq_getElem?_getD, List.getElem?_append_right h]
structure CvRows (A : Nat) (pl : Nat → Nat × Nat) (Ls : List (List Int)) (W : World) : Prop where
  row : ∀ i, i < Ls.length → A ≤ (pl i).1 ∧ ∃ m S, OwnI W (pl i).1 m S ∧ (pl i).2 + (lI Ls i).length ≤ S.length ∧ ∀ j, j < (lI Ls i).length → eI S ((pl i).2 + j) = eI (lI Ls i) j
  apart : apartP Ls pl
def CvVals (pl : Nat → Nat × Nat) (Ls : List (List Int)) (vals : List Value) : Prop := vals.length = Ls.length ∧ ∀ i, i < Ls.length → ∃ c, vals[i]? = some (.slice (some ⟨(pl i).1, (pl i).2, none⟩) (lI Ls i).length c)
def CvAt (B A : Nat) (Ls : List (List Int)) (W : World) : Prop := ∃ u pl vals, Boxed W B 42 u ∧ W.ownsRow A 25 1 u Ls.length vals ∧ CvVals pl Ls vals ∧ CvRows A pl Ls W
theorem rowC_same {w w' : World} {B n sz : Nat} {e : TypeId} {v : Value} {xs : List Value} (h : w.ownsRow B e sz v n xs) (hk : ∀ k cur t fr, B ≤ k → w.heap[k]? = some (Obj.cells cur t fr) → w'.heap[k]? = w.heap[k]?) : w'.ownsRow B e sz v n xs := by
  refine ⟨h.1, ?_⟩
  rcases h.2 with hn | ⟨g, c, cur, hv, hb, hg, r⟩
  · exact .inl hn
  · exact .inr ⟨g, c, cur, hv, hb, (hk g _ _ _ hb hg).trans hg, r⟩
theorem row_formC {w : World} {B n sz : Nat} {e : TypeId} {v : Value} {xs : List Value} (h : w.ownsRow B e sz v n xs) : ∃ q cap, v = .slice q n cap := by
  rcases h.2 with ⟨rfl, h0⟩ | ⟨g, cap, cur, rfl, _⟩
  · exact ⟨none, 0, by rw [h0]⟩
  · exact ⟨_, _, rfl⟩
theorem CvRows.same {A : Nat} {pl : Nat → Nat × Nat} {Ls : List (List Int)} {W W' : World} (h : CvRows A pl Ls W) (hk : ∀ k cur t fr, A ≤ k → W.heap[k]? = some (Obj.cells cur t fr) → W'.heap[k]? = W.heap[k]?) : CvRows A pl Ls W' := by
  refine ⟨fun i hi => ?_, h.apart⟩
  obtain ⟨h1, m, S, h2, h3, h4⟩ := h.row i hi
  refine ⟨h1, m, S, h2.keep ?_, h3, h4⟩
  obtain ⟨cur, hc, _⟩ := h2
  exact hk _ _ _ _ h1 hc
theorem CvAt.same {B A : Nat} {Ls : List (List Int)} {W W' : World} (h : CvAt B A Ls W) (hk : ∀ k cur t fr, (k = B ∨ A ≤ k) → W.heap[k]? = some (Obj.cells cur t fr) → W'.heap[k]? = W.heap[k]?) : CvAt B A Ls W' := by
  obtain ⟨u, pl, vals, hu, hrow, hv, hR⟩ := h
  exact ⟨u, pl, vals, (hk B _ _ _ (.inl rfl) hu).trans hu, rowC_same hrow (fun k c t f h1 h2 => hk k c t f (.inr h1) h2), hv, hR.same (fun k c t f h1 h2 => hk k c t f (.inr h1) h2)⟩
theorem cvAt_own {α : Type} (B A : Nat) (L : α → List (List Int)) : Own (fun s W => CvAt B A (L s) W) := fun s W W' row h hg hr => h.same fun k cur t fr _ hc => hg.block k (Array.getElem?_eq_some_iff.1 hc).1 (fun e => by
  obtain ⟨o, ho, hcl⟩ := hr k e.symm
  rw [hc] at ho
  cases ho
  cases hcl)
theorem CvRows.fresh {A B K cap : Nat} {pl : Nat → Nat × Nat} {Ls : List (List Int)} {W : World} {q : Option Addr} {vals : List Value} (h : CvRows A pl Ls W) (hr : W.ownsRow A 25 1 (.slice q K cap) K vals) (hv : CvVals pl Ls vals) (hl : Ls.length = K) (hB : B ≤ A) : FreshP B W q K Ls := by
  refine ⟨hl, ?_⟩
  rcases hr.2 with ⟨_, h0⟩ | ⟨g, cap', cur, hv1, hb, hg, hn, hm, hs, ht⟩
  · exact .inl h0
  · injection hv1 with v1 v2 v3
    subst v1
    have hgz : g < W.heap.size := (Array.getElem?_eq_some_iff.1 hg).1
    have hne : ∀ i, i < Ls.length → (pl i).1 ≠ g := fun i hi e => by
      obtain ⟨_, m, S, h3, _⟩ := h.row i hi
      rw [e] at h3
      obtain ⟨cur2, hc2, _⟩ := h3
      have := Option.some.inj (hg.symm.trans hc2)
      injection this with _ h2
      exact absurd h2 (by decide)
    refine .inr ⟨g, pl, rfl, hgz, Nat.le_trans hB hb, fun i hi => ?_, fun i hi => ?_, h.apart⟩
    · obtain ⟨c, hc⟩ := hv.2 i hi
      refine ⟨c, ?_⟩
      rw [cell_of_row W g _ cur _ _ hg]
      have h1 : (cur.toList.take (K * 1))[i]? = cur.toList[i]? := by rw [List.getElem?_take, if_pos (by omega)]
      rw [ht, hc] at h1
      rw [← Array.getElem?_toList, ← h1]
    · obtain ⟨h1, m, S, h3, h4, h5⟩ := h.row i hi
      refine ⟨Nat.le_trans hB h1, hne i hi, h3.lt, fun j hj => ?_, fun j hj => h3.free _⟩
      have h6 := h3.reads ((pl i).2 + j) (by omega)
      rw [Nat.zero_add, h5 j hj] at h6
      exact h6

def plA (pl : Nat → Nat × Nat) (K ba : Nat) (Ms : List (List Int)) (i : Nat) : Nat × Nat := if i < K then pl i else (ba, sumLL Ms (i - K))
theorem plA_lt {pl : Nat → Nat × Nat} {K ba i : Nat} {Ms : List (List Int)} (h : i < K) : plA pl K ba Ms i = pl i := if_pos h
theorem plA_ge {pl : Nat → Nat × Nat} {K ba i : Nat} {Ms : List (List Int)} (h : ¬ i < K) : plA pl K ba Ms i = (ba, sumLL Ms (i - K)) := if_neg h
/-- Rows of one block more. -/
theorem cv_push {B A K M ba m : Nat} {Ls Ms : List (List Int)} {W W5 w9 : World} {u v' : Value} {pl : Nat → Nat × Nat} {vals : List Value}
    (hu : Boxed W B 42 u) (hrow : W.ownsRow A 25 1 u K vals) (hK : Ls.length = K) (hv : CvVals pl Ls vals) (hR : CvRows A pl Ls W)
    (hb5 : Below W.heap.size W W5) (hA : A ≤ W.heap.size) (hB : B < A) (hOw : OwnI W5 ba m Ms.flatten) (hba : W.heap.size ≤ ba)
    (hown : w9.ownsRow A 25 1 v' (K + M) (vals ++ rowsV ba Ms)) (hM : Ms.length = M) (hgrow : W5.grownBy w9 u.ownBlock) :
    (∀ Bk, KeepsFrom Bk W (w9.setCell ⟨B, 0, none⟩ v')) ∧ KeptE W (w9.setCell ⟨B, 0, none⟩ v') ∧ CvAt B A (Ls ++ Ms) (w9.setCell ⟨B, 0, none⟩ v') ∧ Below B W (w9.setCell ⟨B, 0, none⟩ v') := by
  have hz5 := hb5.size
  have hz9 := hgrow.size
  have hob : ∀ i, some i = u.ownBlock → A ≤ i ∧ i < W.heap.size ∧ ∃ cur fr, W.heap[i]? = some (.cells cur 25 fr) := fun i e => by
    rcases hrow.2 with ⟨rfl, _⟩ | ⟨g, cap, cur, rfl, hb, hg, _⟩
    · cases e
    · obtain rfl : i = g := Option.some.inj e
      exact ⟨hb, (Array.getElem?_eq_some_iff.1 hg).1, cur, _, hg⟩
  have hk5 : ∀ i, i < W5.heap.size → i ≠ B → some i ≠ u.ownBlock → (w9.setCell ⟨B, 0, none⟩ v').heap[i]? = W5.heap[i]? := fun i hi hiB hne => (heap_setCell_other w9 ⟨B, 0, none⟩ i _ (by show i ≠ B; exact hiB)).trans (hgrow.block i hi hne)
  have hkW : ∀ i, i < W.heap.size → i ≠ B → some i ≠ u.ownBlock → (w9.setCell ⟨B, 0, none⟩ v').heap[i]? = W.heap[i]? := fun i hi hiB hne => (hk5 i (by omega) hiB hne).trans (hb5.block i hi)
  have huz := hu.lt
  have hu9 : Boxed w9 B 42 u := ((hgrow.block B (by omega) (fun e => by have := (hob B e).1; omega)).trans (hb5.block B huz)).trans hu
  have hsz : W.heap.size ≤ (w9.setCell ⟨B, 0, none⟩ v').heap.size := by simp [World.setCell]; omega
  have htp : ∀ i cur t fr, W.heap[i]? = some (.cells cur t fr) → t ≠ 25 → some i ≠ u.ownBlock := fun i cur t fr hc ht e => by
    obtain ⟨_, _, cur2, fr2, hc2⟩ := hob i e
    rw [hc] at hc2
    injection hc2 with hc2
    injection hc2 with _ hc3
    exact ht hc3
  refine ⟨fun Bk => ⟨hsz, fun i o _ hi ho => ?_⟩, ⟨hsz, fun i cur fr hi => hkW i (Array.getElem?_eq_some_iff.1 hi).1 (fun e => ?_) (htp i _ _ _ hi (by decide))⟩, ⟨v', plA pl K ba Ms, vals ++ rowsV ba Ms, Boxed.set _ hu9, ?_, ⟨?_, fun i hi => ?_⟩, ⟨fun i hi => ?_, fun i j hi hj hij => ?_⟩⟩, ⟨?_, ?_, ?_, hsz, fun i hi => hkW i (by omega) (by omega) (fun e => by have := (hob i e).1; omega)⟩⟩
  · refine (hkW i (Array.getElem?_eq_some_iff.1 hi).1 (fun e => ?_) (fun e => ?_)).trans hi
    · subst e
      rw [show W.heap[i]? = _ from hu] at hi
      cases hi
      cases ho
    · obtain ⟨_, _, cur2, fr2, hc2⟩ := hob i e
      rw [hc2] at hi
      cases hi
      cases ho
  · subst e
    rw [show W.heap[i]? = _ from hu] at hi
    injection hi with hi
    injection hi with _ hi2
    exact absurd hi2 (by decide)
  · rw [List.length_append, hK, hM]
    exact hown.kept (grownBy_setCell' w9 B v') (.inr (hu9.not_row (by decide) hown).symm)
  · rw [List.length_append, List.length_append, hv.1, rowsV_len]
  · rw [List.length_append, hK, hM] at hi
    by_cases h : i < K
    · rw [plA_lt h, lI_appL (by omega), List.getElem?_append_left (by rw [hv.1]; omega)]
      exact hv.2 i (by omega)
    · rw [plA_ge h, lI_appR (by omega), List.getElem?_append_right (by rw [hv.1]; omega), hv.1, hK, rowsV_at (by omega)]
      exact ⟨_, rfl⟩
  · rw [List.length_append, hK, hM] at hi
    by_cases h : i < K
    · rw [plA_lt h, lI_appL (by omega)]
      obtain ⟨h1, m', S, h2, h3, h4⟩ := hR.row i (by omega)
      refine ⟨h1, m', S, h2.keep (hkW _ h2.lt (by omega) ?_), h3, h4⟩
      obtain ⟨cur, hc, _⟩ := h2
      exact htp _ _ _ _ hc (by decide)
    · rw [plA_ge h, lI_appR (by omega), hK]
      refine ⟨by show A ≤ ba; omega, m, Ms.flatten, hOw.keep (hk5 ba hOw.lt (by omega) (fun e => by have := (hob ba e).2.1; omega)), ?_, fun j hj => flat_at Ms (i - K) j (by omega) hj⟩
      have h1 := sumLL_lt Ms (show i - K < Ms.length by omega)
      have h2 := sumLL_flat Ms
      show sumLL Ms (i - K) + _ ≤ _
      omega
  · rw [List.length_append, hK, hM] at hi hj
    have hlt : ∀ i, i < K → (pl i).1 < W.heap.size := fun i hi => by
      obtain ⟨_, m', S, h2, _⟩ := hR.row i (by omega)
      exact h2.lt
    by_cases h1 : i < K <;> by_cases h2 : j < K
    · rw [plA_lt h1, plA_lt h2, lI_appL (by omega), lI_appL (by omega)]
      exact hR.apart i j (by omega) (by omega) hij
    · rw [plA_lt h1, plA_ge h2]
      left
      have := hlt i h1
      show (pl i).1 ≠ ba
      omega
    · rw [plA_ge h1, plA_lt h2]
      left
      have := hlt j h2
      show ba ≠ (pl j).1
      omega
    · rw [plA_ge h1, plA_ge h2, lI_appR (by omega), lI_appR (by omega), hK]
      right
      rcases Nat.lt_or_ge i j with h | h
      · left
        have h3 := sumLL_lt Ms (i := i - K) (n := j - K) (by omega)
        exact h3
      · right
        have h3 := sumLL_lt Ms (i := j - K) (n := i - K) (by omega)
        exact h3
  · exact hgrow.os.trans hb5.os
  · exact hgrow.tape.trans hb5.tape
  · exact hgrow.output.trans hb5.output

end Go.Proofs.Ytogdcoioflcdiaa

/- CoverOfColouring in the model. -/
namespace Go.Proofs.Ytogdcoioflcdiaa
open Go.RowKit

theorem cycX_pos (es : List (Int × Int)) (xs : List Int) : ∀ i, 0 < i → 0 < (cycX es xs i).length
  | 0, h => absurd h (by omega)
  | i + 1, _ => by
    cases h : metX es xs i i
    · rw [cycX_yes h, List.length_append]
      simp
    · rw [cycX_no h]
      refine cycX_pos es xs i ?_
      rcases i with _ | i
      · rw [metX_zero] at h; cases h
      · omega
theorem colSet_pos {N : Nat} {es : List (Int × Int)} {cs : List Int} (g : IsG N es) (gc : isColP es cs) {l : Int} : 0 < (colSet cs l es.length).length := by
  obtain ⟨e, he, _, hc⟩ := col_has g gc (v := 0) ⟨by omega, by have := g.1.1.1; omega⟩ (c := if l = 0 then 1 else 0) (by split <;> omega)
  have : (e : Int) ∈ colSet cs l es.length := numsB_mem.2 ⟨e, he, by simp; rw [hc]; split <;> omega, rfl⟩
  exact List.length_pos_of_mem this
theorem lR_left {Ls Ms : List (List Int)} {i : Nat} (h : i < Ls.length) : lR (Ls ++ Ms) i = lR Ls i := by
  unfold lR
  rw [List.getD_eq_getElem?_getD, List.getD_eq_getElem?_getD, List.getElem?_append_left h]
theorem lR_right {Ls Ms : List (List Int)} {i : Nat} (h : Ls.length ≤ i) : lR (Ls ++ Ms) i = lR Ms (i - Ls.length) := by
  unfold lR
  rw [List.getD_eq_getElem?_getD, List.getD_eq_getElem?_getD, List.getElem?_append_right h]
/-- Rows put behind rows. -/
theorem RowsM.appended {w w5 w9 : World} {B B2 cap cap2 cap9 : Nat} {q q2 q9 : Option Addr} {Ls Ms : List (List Int)} {vals vals2 : List Value} (h : RowsM w B Ls cap q vals) (hb : Below w.heap.size w w5) (h2 : RowsM w5 B2 Ms cap2 q2 vals2) (hB : B ≤ B2)
    (hown : w9.ownsRow B 25 1 (.slice q9 (Ls.length + Ms.length) cap9) (Ls.length + Ms.length) (vals ++ vals2)) (hg : w5.grownBy w9 (Value.slice q Ls.length cap).ownBlock) : RowsM w9 B (Ls ++ Ms) cap9 q9 (vals ++ vals2) := by
  obtain ⟨a1, a2, a3⟩ := h
  obtain ⟨b1, b2, b3⟩ := h2
  have a1' : w5.ownsRow B 25 1 (.slice q Ls.length cap) Ls.length vals := by
    refine ⟨a1.1, ?_⟩
    rcases a1.2 with hn | ⟨g, c, cur, hv, hbb, hgg, r⟩
    · exact .inl hn
    · exact .inr ⟨g, c, cur, hv, hbb, (hb.block g (Array.getElem?_eq_some_iff.1 hgg).1).trans hgg, r⟩
  refine ⟨by rw [List.length_append]; exact hown, by rw [List.length_append, List.length_append, a2, b2], fun i hi => ?_⟩
  rw [List.length_append] at hi
  by_cases h : i < Ls.length
  · obtain ⟨g, c, e1, e2, e3⟩ := a3 i h
    rw [lR_left h, List.getElem?_append_left (by omega)]
    have e5 := e3.on hb
    exact ⟨g, c, e1, e2, e5.keep (hg.block g e5.lt (row_nei a1' e5))⟩
  · obtain ⟨g, c, e1, e2, e3⟩ := b3 (i - Ls.length) (by omega)
    rw [lR_right (by omega), List.getElem?_append_right (by omega), a2]
    exact ⟨g, c, e1, by omega, e3.keep (hg.block g e3.lt (row_nei a1' e3))⟩
theorem rowsM_cells {w : World} {B cap g : Nat} {Ls : List (List Int)} {vals : List Value} (h : RowsM w B Ls cap (some ⟨g, 0, none⟩) vals) : (∀ j u, vals[j]? = some u → w.cell? ((⟨g, 0, none⟩ : Addr).add j) = some u) ∧ ∀ u ∈ vals, u.oneCell' = true := by
  refine ⟨fun j u hj => h.1.cells (g := g) rfl j u hj, fun u hu => ?_⟩
  obtain ⟨j, hj, e⟩ := List.getElem_of_mem hu
  obtain ⟨g', c, e1, _⟩ := h.2.2 j (by rw [← h.2.1]; exact hj)
  rw [List.getElem?_eq_getElem hj, e] at e1
  rw [Option.some.inj e1]
  rfl
theorem rowsM_some {w : World} {B cap : Nat} {q : Option Addr} {Ls : List (List Int)} {vals : List Value} (h : RowsM w B Ls cap q vals) (hp : 0 < Ls.length) : ∃ g, q = some ⟨g, 0, none⟩ ∧ B ≤ g ∧ g < w.heap.size := by
  rcases h.1.2 with ⟨_, h0⟩ | ⟨g, cap', cur, hv, hb, hg, _⟩
  · omega
  · injection hv with v1
    exact ⟨g, v1, hb, (Array.getElem?_eq_some_iff.1 hg).1⟩

theorem row_formV {w : World} {B n sz : Nat} {e : TypeId} {v : Value} {xs : List Value} (h : w.ownsRow B e sz v n xs) : ∃ q cap, v = .slice q n cap := by
  rcases h.2 with ⟨rfl, h0⟩ | ⟨g, cap, cur, rfl, _⟩
  · exact ⟨none, 0, by rw [h0]⟩
  · exact ⟨_, _, rfl⟩
def cvF (es : List (Int × Int)) (cs : List Int) : List (List Int) × Int := if inR cs then (if isColP es cs then (cvU es cs 3, 0) else ([], 5)) else ([], 2)

set_option maxRecDepth 100000 in
set_option maxHeartbeats 16000000 in
theorem sCov_yes (N : Nat) (b off n c cb co f : Nat) (es : List (Int × Int)) (cs : List Int) (w : World) (hn : es.length = n) (hr : ReadsE w b off es) (g : IsG N es) (hl : cs.length = n) (hrc : ReadsI w cb co cs) :
    Calls Try.prog 34 #[.agg #[.int .i64 N, .slice (some ⟨b, off, none⟩) n c], .slice (some ⟨cb, co, none⟩) n f] w fun e' w' => ∃ q cap, e' = .returned (.tuple #[.slice q (cvF es cs).1.length cap, .int .i64 (cvF es cs).2]) ∧ SeesL w' q (cvF es cs).1 ∧ Below w.heap.size w w' := by
  have hn30 : n ≤ 30 := by have := isG_len g; omega
  have hn1 : 0 < n := by have h1 := g.1.1.1; have h2 := g.1.1.2.2.2; omega
  have hN20 : N ≤ 20 := by have := g.1.1.2.1; omega
  have hbl : b < w.heap.size := reads_lt hr (by omega)
  have hcbl : cb < w.heap.size := hrc.lt (by omega)
  obtain ⟨F, hF⟩ : ∃ F, cvF es cs = F := ⟨_, rfl⟩
  rw [hF]
  have HF := hid hF
  have Hn := hid hn
  have Hr := hid hr
  have Hl := hid hl
  have Hrc := hid hrc
  have G := hid g
  obtain ⟨j0, hj, hy0, hy1, hy2⟩ := info_parts infoInt
  obtain ⟨s0, hs, hs0, hs1, hs2⟩ := info_parts infoSlR
  have Hj := hid hj
  have Hs := hid hs
  clear hn hr hl hrc g hF hj hs
  go_enter Try.func34, Try.ntmps34
  go_wp2_with fail
  refine (sIs_any _ _ _ _ es _ (by omega) Hn.out (SeesE.on (.inr ⟨b, off, rfl, Hr.out⟩) (on_alloc _ _))).mono ?_
  rw [decide_eq_true G.out]
  rintro e w2 ⟨rfl, hb2⟩
  have HB2 := hid (bfrom (w := w) (on_alloc _ _) hb2)
  have HX2 := hid ((Box.new w N (some ⟨b, off, none⟩) n c 31).on hb2)
  have hx2 := HX2.out.1
  have hy2' := HX2.out.2
  have hz2 := HX2.out.lt
  clear hb2
  go_wp2
  go_loopw [6] (fun i wr => ∃ j : Nat, j ≤ n ∧ i = .int .i64 j ∧ Hid (∀ e, e < j → 0 ≤ eI cs e ∧ eI cs e < 3) ∧ Hid (Below w2.heap.size w2 wr)) (fun i _ => n - (intOf i).toNat)
  case atStart => exact ⟨0, Nat.zero_le _, rfl, hid (fun e he => absurd he (by omega)), hid (Below.refl _ _)⟩
  case round =>
    obtain ⟨j, hj, rfl, hIn, hB⟩ := hrel
    have hBs := hB.out.size
    by_cases hlt : j < n
    · have hlt' : (j : Int) < (n : Int) := by omega
      have hc1 := (Hrc.out.on (bfrom HB2.out hB.out)) j (by have := Hl.out; omega)
      obtain ⟨x, hx⟩ : ∃ x, eI cs j = x := ⟨_, rfl⟩
      rw [hx] at hc1
      have HXx := hid hx
      have hcbr : cb < wr.heap.size := by have := HB2.out.size; omega
      clear hx
      by_cases hin : 0 ≤ x ∧ x ≤ 2
      · have H1 := hid hin
        clear hin
        go_wp2_with (go_at_call 69; refine (sIn_yes _ _ _ _ H1.out).mono ?_; rintro e' w' ⟨rfl, rfl⟩)
        go_roundw
        case rel => exact ⟨j + 1, by omega, by go_num, hid (fun e he => by
          by_cases h : e = j
          · subst h; rw [HXx.out]; have := H1.out; omega
          · exact hIn.out e (by omega)), hB⟩
        case measure => simp [intOf]; omega
      · have H1 := hid (show x < 0 ∨ 2 < x by omega)
        have HF0 := hid (show F = ([], 2) by
          rw [← HF.out]
          unfold cvF
          rw [if_neg (fun h => hin (by have h3 := h j (by rw [Hl.out]; exact hlt); rw [HXx.out] at h3; omega))])
        clear hin
        go_wp2_with (go_at_call 69; refine (sIn_no _ _ _ _ H1.out).mono ?_; rintro e' w' ⟨rfl, rfl⟩)
        go_ret2
        rw [HF0.out]
        exact ⟨none, 0, rfl, .inl rfl, bfrom HB2.out hB.out⟩
    · have HIR := hid (show inR cs from fun e he => hIn.out e (by have := Hl.out; omega))
      have HXr := hid (HX2.out.on hB.out)
      have hxr := HXr.out.1
      have hyr := HXr.out.2
      have hzr := HXr.out.lt
      have HB3 := hid (bfrom HB2.out hB.out)
      obtain ⟨w3, rfl⟩ : ∃ w3 : World, w3 = wr := ⟨_, rfl⟩
      clear hx2 hy2' hIn hB
      go_wp2
      go_loopw [7] (fun i wr => ∃ v : Nat, v ≤ N ∧ i = .int .i64 v ∧ Hid (∀ u : Nat, u < v → difP es cs u) ∧ Hid (Below w3.heap.size w3 wr)) (fun i _ => N - (intOf i).toNat)
      case atStart => exact ⟨0, Nat.zero_le _, rfl, hid (fun e he => absurd he (by omega)), hid (Below.refl _ _)⟩
      case round =>
        obtain ⟨v, hv, rfl, hD, hB⟩ := hrel
        have hBs3 := hB.out.size
        have HXv := hid (HXr.on hB.out)
        have hxv := HXv.out.1
        have hyv := HXv.out.2
        have hzv := HXv.out.lt
        have HBv := hid (bfrom HB3.out hB.out)
        obtain ⟨w4, rfl⟩ : ∃ w4 : World, w4 = wr := ⟨_, rfl⟩
        clear hxr hyr
        by_cases hltv : v < N
        · have hltv' : (v : Int) < (N : Int) := by omega
          go_wp2_with fail
          refine (sAt_any N v b off n c es _ Hn.out hn30 (Hr.out.on HBv.out)).mono ?_
          rintro e w5 ⟨q5, cap5, rfl, hf5, hb5⟩
          have h3 : (atF es v).length = 3 := atF_three G.out (by omega) hltv'
          rw [h3] at hf5 ⊢
          obtain ⟨gA, rfl, hgA, hoA⟩ : ∃ g, q5 = some ⟨g, 0, none⟩ ∧ w4.heap.size ≤ g ∧ OwnI w5 g cap5 (atF es v) := by
            rcases hf5.form with ⟨_, h, _⟩ | h
            · omega
            · exact h
          obtain ⟨X, hX, _, eX⟩ := atF_lt (es := es) (v := (v : Int)) (i := 0) (by omega)
          obtain ⟨Y, hY, _, eY⟩ := atF_lt (es := es) (v := (v : Int)) (i := 1) (by omega)
          obtain ⟨Z, hZ, _, eZ⟩ := atF_lt (es := es) (v := (v : Int)) (i := 2) (by omega)
          have cX := hoA.reads 0 (by omega)
          have cY := hoA.reads 1 (by omega)
          have cZ := hoA.reads 2 (by omega)
          rw [eX] at cX
          rw [eY] at cY
          rw [eZ] at cZ
          simp only [Nat.zero_add] at cX cY cZ
          have HB5 := hid (bfrom HBv.out hb5)
          have dX := (Hrc.out.on HB5.out) X (by have := Hl.out; have := Hn.out; omega)
          have dY := (Hrc.out.on HB5.out) Y (by have := Hl.out; have := Hn.out; omega)
          have dZ := (Hrc.out.on HB5.out) Z (by have := Hl.out; have := Hn.out; omega)
          obtain ⟨A, hA⟩ : ∃ A, eI cs X = A := ⟨_, rfl⟩
          obtain ⟨B, hB'⟩ : ∃ B, eI cs Y = B := ⟨_, rfl⟩
          obtain ⟨C, hC⟩ : ∃ C, eI cs Z = C := ⟨_, rfl⟩
          rw [hA] at dX
          rw [hB'] at dY
          rw [hC] at dZ
          have hXn : X < n := by have := Hn.out; omega
          have hYn : Y < n := by have := Hn.out; omega
          have hZn : Z < n := by have := Hn.out; omega
          have hXn' : (X : Int) < (n : Int) := by omega
          have hYn' : (Y : Int) < (n : Int) := by omega
          have hZn' : (Z : Int) < (n : Int) := by omega
          have HC := hid (And.intro (And.intro eX (And.intro eY eZ)) (And.intro hA (And.intro hB' hC)))
          have HX5 := hid (HXv.out.on hb5)
          have hx5 := HX5.out.1
          have hy5 := HX5.out.2
          have hz5 := HX5.out.lt
          have hgz := hoA.lt
          have hcb5 : cb < w5.heap.size := by have := HB5.out.size; omega
          have HB35 := hid (bfrom hB.out hb5)
          clear hf5 hoA eX eY eZ hA hB' hC hb5 hxv hyv h3 hX hY hZ
          by_cases hd : (A == B) = false ∧ (A == C) = false ∧ (B == C) = false
          · obtain ⟨d1, d2, d3⟩ := hd
            have HDD := hid (show A ≠ B ∧ A ≠ C ∧ B ≠ C from ⟨by simpa using d1, by simpa using d2, by simpa using d3⟩)
            go_wp2
            go_quiet (fail)
            go_wp2
            go_roundw
            case rel =>
              refine ⟨v + 1, by omega, by go_num, hid (fun u hu => ?_), hid (bdn.mpr HB35.out)⟩
              by_cases h : u = v
              · subst h
                obtain ⟨⟨eX, eY, eZ⟩, hA, hB', hC⟩ := HC.out
                obtain ⟨k1, k2, k3⟩ := HDD.out
                intro i j hi hj hij
                rcases (by omega : i = 0 ∨ i = 1 ∨ i = 2) with rfl | rfl | rfl <;> rcases (by omega : j = 0 ∨ j = 1 ∨ j = 2) with rfl | rfl | rfl <;> (try exact absurd rfl hij) <;> simp only [eX, eY, eZ, Int.toNat_natCast, hA, hB', hC] <;> first | exact k1 | exact k1.symm | exact k2 | exact k2.symm | exact k3 | exact k3.symm
              · exact hD.out u (by omega)
            case measure => simp [intOf]; omega
          · have HF0 := hid (show F = ([], 5) by
              rw [← HF.out]
              unfold cvF
              rw [if_pos HIR.out, if_neg (fun gc => hd (by
                have h := col_dif G.out gc hltv'
                obtain ⟨⟨eX, eY, eZ⟩, hA, hB', hC⟩ := HC.out
                have k1 := h 0 1 (by omega) (by omega) (by omega)
                have k2 := h 0 2 (by omega) (by omega) (by omega)
                have k3 := h 1 2 (by omega) (by omega) (by omega)
                simp only [eX, eY, eZ, Int.toNat_natCast, hA, hB', hC] at k1 k2 k3
                exact ⟨by simpa using k1, by simpa using k2, by simpa using k3⟩))])
            cases d1 : (A == B) <;> cases d2 : (A == C) <;> cases d3 : (B == C)
            case false.false.false => exact absurd ⟨d1, d2, d3⟩ hd
            all_goals
              clear hd
              go_wp2
              go_quiet (fail)
              go_wp2
              go_ret2
              rw [HF0.out]
              exact ⟨none, 0, rfl, .inl rfl, bdn.mpr HB5.out⟩
        · have HGC := hid (show isColP es cs from dif_col G.out (by rw [Hl.out, Hn.out]) HIR.out (fun u hu => hD.out u (by omega)))
          clear hD
          go_wp2
          obtain ⟨w6, hw6⟩ : ∃ w6, w6 = w4.alloc (.cells #[] 25) := ⟨_, rfl⟩
          rw [← hw6]
          have HR6 := hid (show RowsM w6 w4.heap.size [] 0 (some ⟨w4.heap.size, 0, none⟩) [] by rw [hw6]; exact rows_new w4 _ _ rfl (Nat.le_refl _))
          have HB6 := hid (show Below w4.heap.size w4 w6 by rw [hw6]; exact on_alloc _ _)
          have HXw := hid HXv.out
          clear hw6 hxv hyv
          go_loopw [12, 13] (fun u l wr => ∃ (i K cap : Nat) (q : Option Addr) (vals : List Value), i ≤ 3 ∧ Hid (K = (cvU es cs i).length) ∧ u = .slice q K cap ∧ l = .int .i64 (2 - (i : Int)) ∧ Hid (RowsM wr w4.heap.size (cvU es cs i) cap q vals) ∧ Hid (Below w4.heap.size w4 wr)) (fun _ l _ => ((intOf l) + 1).toNat)
          case atStart => exact ⟨0, 0, 0, some ⟨w4.heap.size, 0, none⟩, [], by omega, hid rfl, rfl, by go_num, HR6, HB6⟩
          case round =>
            obtain ⟨i, K, cap, q, vals, hi, hK, rfl, rfl, hRo, hBo⟩ := hrel
            clear HR6 HB6
            have hBos := hBo.out.size
            have HXi := hid (HXw.out.on hBo.out)
            have hxi := HXi.out.1
            have hyi := HXi.out.2
            have hzi := HXi.out.lt
            have HBi := hid (bfrom HBv.out hBo.out)
            have hK90 : K ≤ 90 := by
              have h1 := cvU_len es cs i
              have h2 : i * es.length ≤ 3 * 30 := Nat.mul_le_mul hi (by have := Hn.out; omega)
              have := hK.out
              omega
            obtain ⟨wi, rfl⟩ : ∃ wi : World, wi = wr := ⟨_, rfl⟩
            by_cases hlti : i < 3
            · obtain ⟨L, hL⟩ : ∃ L : Int, 2 - (i : Int) = L := ⟨_, rfl⟩
              have hL0 : 0 ≤ L := by omega
              have hL3 : L < 3 := by omega
              have HL := hid hL
              rw [hL]
              clear hL
              go_wp2
              obtain ⟨w7, hw7⟩ : ∃ w7, w7 = wi.alloc (.cells #[] 2) := ⟨_, rfl⟩
              rw [← hw7]
              have HO7 := hid (show w7.ownsRow wi.heap.size 2 1 (.slice (some ⟨wi.heap.size, 0, none⟩) 0 0) 0 (intVals (colSet cs L 0)) by rw [hw7]; exact World.ownsRow_made (base := wi.heap.size) (e := 2) (size := 1) wi #[] 0 (Nat.le_refl _) (Nat.zero_le _) rfl)
              have HB7 := hid (show Below wi.heap.size wi w7 by rw [hw7]; exact on_alloc _ _)
              clear hw7
              go_loopw [14, 15] (fun u e wx => ∃ (k kl cap' : Nat) (q' : Option Addr), k ≤ n ∧ Hid (kl = (colSet cs L k).length) ∧ u = .slice q' kl cap' ∧ e = .int .i64 k ∧ Hid (wx.ownsRow wi.heap.size 2 1 (.slice q' kl cap') kl (intVals (colSet cs L k))) ∧ Hid (Below wi.heap.size wi wx)) (fun _ e _ => n - (intOf e).toNat)
              case atStart => exact ⟨0, 0, 0, some ⟨wi.heap.size, 0, none⟩, Nat.zero_le _, hid rfl, rfl, rfl, HO7, HB7⟩
              case round =>
                obtain ⟨k, kl, cap', q', hk, hkl, rfl, rfl, hO, hB8⟩ := hrel
                clear HO7 HB7
                have hB8s := hB8.out.size
                have HB9 := hid (bfrom HBi.out hB8.out)
                have hkl30 : kl ≤ 30 := by have := hkl.out; have h := numsB_len (fun e => !(eI cs e == L)) k; unfold colSet at this; omega
                obtain ⟨wx, rfl⟩ : ∃ wx : World, wx = wr := ⟨_, rfl⟩
                by_cases hltk : k < n
                · have hltk' : (k : Int) < (n : Int) := by omega
                  have hc1 := (Hrc.out.on HB9.out) k (by have := Hl.out; omega)
                  obtain ⟨x, hx⟩ : ∃ x, eI cs k = x := ⟨_, rfl⟩
                  rw [hx] at hc1
                  have HXx := hid hx
                  have hcbr : cb < wx.heap.size := by have := HB9.out.size; omega
                  clear hx
                  cases hxl : (x != L)
                  · have HST := hid (show colSet cs L (k + 1) = colSet cs L k from numsB_no (by rw [HXx.out]; simpa using hxl))
                    go_wp2
                    go_roundw
                    case rel => exact ⟨k + 1, kl, cap', q', by omega, hid (by rw [HST.out]; exact hkl.out), rfl, by go_num, hid (by rw [HST.out]; exact hO.out), hB8⟩
                    case measure => simp [intOf]; omega
                  · have HST := hid (show colSet cs L (k + 1) = colSet cs L k ++ [(k : Int)] from numsB_yes (by rw [HXx.out]; simpa using hxl))
                    have hrow : ∀ j, (Value.slice q' kl cap').ownBlock = some j → wi.heap.size ≤ j ∧ j < wx.heap.size := hO.out.lt
                    go_wp2_with (at_builtin; refine wpList_append_own _ rfl (.tmp 95) (.tmp 97) 25 rfl wi.heap.size 2 j0 (.int .i64 0) 1 8 Try.underlying25 Hj.out hy0 hy1 hy2 rfl (by decide) (.slice q' kl cap') kl (intVals (colSet cs L k)) rfl (hO.out.alloc _) ⟨wx.heap.size, 0, none⟩ 1 1 [.int .i64 (k : Int)] rfl rfl (cell_one_new _ _ _) (by simp [Value.oneCell']) (by unfold maxLen; omega) (by omega) (by simp; omega) ?_; intro v' w9 hown9 hgrow9 _; obtain ⟨g9, cap9, rfl⟩ := ownsRow_succ hown9)
                    go_roundw
                    case rel => exact ⟨k + 1, kl + 1, cap9, some ⟨g9, 0, none⟩, by omega, hid (by rw [HST.out, List.length_append, ← hkl.out]; rfl), rfl, by go_num, hid (by rw [HST.out, intVals_append]; exact hown9), hid ((hB8.out.alloc hB8s _).grown hgrow9 (by simp; omega) (fun j hj => (hrow j hj).1))⟩
                    case measure => simp [intOf]; omega
                · have hkn := hid (show k = n by omega)
                  have HFS := hid (show FreshI wi.heap.size wx q' kl cap' (colSet cs L n) from ⟨by rw [← hkn.out]; exact hO.out, by rw [← hkn.out, hkl.out]⟩)
                  have hLs := hid (show (colSet cs L n).length = kl by rw [hkl.out, hkn.out])
                  have HGE := hid (show evenP N es (colSet cs L n) by have h := colSet_even G.out HGC.out (l := L) ⟨hL0, hL3⟩; rwa [Hn.out] at h)
                  have HPO := hid (show 0 < kl by have h := colSet_pos G.out HGC.out (l := L); rw [Hn.out, hLs.out] at h; exact h)
                  have HXx := hid (HXi.out.on hB8.out)
                  have hxx := HXx.out.1
                  have hyx := HXx.out.2
                  have hzx := HXx.out.lt
                  clear hxi hyi hO
                  go_wp2_with fail
                  refine (sCyc7_any N b off n c q' kl cap' es (colSet cs L n) wx Hn.out (Hr.out.on HB9.out) G.out hLs.out HFS.out.sees (colSet_set cs L n) HGE.out).mono ?_
                  rintro e w8 ⟨q2, cap2, vals2, rfl, hR2, hb8⟩
                  obtain ⟨g2, rfl, hg2, hgl2⟩ := rowsM_some hR2 (cycX_pos _ _ _ HPO.out)
                  have HM30 := hid (show (cycX es (colSet cs L n) kl).length ≤ 30 by have := cycX_len es (colSet cs L n) kl; omega)
                  obtain ⟨Ms, hMs⟩ : ∃ Ms, cycX es (colSet cs L n) kl = Ms := ⟨_, rfl⟩
                  rw [hMs] at hR2 HM30 ⊢
                  have HMs := hid hMs
                  obtain ⟨M, hM⟩ : ∃ M, Ms.length = M := ⟨_, rfl⟩
                  rw [hM] at HM30 ⊢
                  have HM := hid hM
                  have hM30 := HM30.out
                  have HR2 := hid hR2
                  have HC2 := hid (rowsM_cells hR2)
                  have HL2 := hid (show vals2.length = M * 1 by rw [hR2.2.1, hM]; omega)
                  have HB8' := hid (hB8.out.trans (hb8.mono hB8s))
                  have HRow := hid (show w8.ownsRow w4.heap.size 25 1 (.slice q K cap) K vals by
                    have h := (hRo.out.onB HB8'.out).1
                    rw [← hK.out] at h
                    exact h)
                  have hrow : ∀ j, (Value.slice q K cap).ownBlock = some j → w4.heap.size ≤ j ∧ j < w8.heap.size := HRow.out.lt
                  have hs8 := HB8'.out.size
                  clear hMs hM hR2 hb8 hxx hyx
                  go_wp2_with (at_builtin; refine wpList_append_own _ rfl (.tmp 99) (.tmp 102) 42 rfl w4.heap.size 25 s0 (.slice none 0 0) 1 24 Try.underlying42 Hs.out hs0 hs1 hs2 rfl (by decide) (.slice q K cap) K vals rfl HRow.out ⟨g2, 0, none⟩ M cap2 vals2 rfl HL2.out HC2.out.1 HC2.out.2 (by unfold maxLen; omega) (by omega) (by omega) ?_; intro v' w9 hown9 hgrow9 _; obtain ⟨q9, cap9, rfl⟩ := row_formV hown9)
                  go_roundw
                  case rel =>
                    have e1 : cvU es cs (i + 1) = cvU es cs i ++ Ms := by
                      show cvU es cs i ++ cycX es (colSet cs (2 - (i : Int)) es.length) (colSet cs (2 - (i : Int)) es.length).length = _
                      rw [HL.out, Hn.out, hLs.out, HMs.out]
                    refine ⟨i + 1, K + M, cap9, q9, vals ++ vals2, by omega, hid (by rw [e1, List.length_append, HM.out, hK.out]), rfl, by rw [← HL.out]; go_num, hid ?_, hid ?_⟩
                    · rw [e1]
                      refine hRo.out.appended HB8'.out HR2.out (by have := hB8.out.size; omega) ?_ ?_
                      · rw [← hK.out, HM.out]; exact hown9
                      · rw [← hK.out]; exact hgrow9
                    · exact ((hBo.out.trans (HB8'.out.mono hBos))).grown hgrow9 (by omega) (fun j hj => (hrow j hj).1)
                  case measure => simp [intOf]; omega
            · have hi3 := hid (show i = 3 by omega)
              have HF0 := hid (show F = (cvU es cs i, 0) by
                rw [← HF.out]
                unfold cvF
                rw [if_pos HIR.out, if_pos HGC.out, hi3.out])
              have hneg : ¬ (0 ≤ 2 - (i : Int)) := by omega
              have HS := hid hRo.out.seesL
              clear hRo
              go_wp2
              go_ret2
              rw [HF0.out]
              exact ⟨q, ⟨cap, by rw [hK.out]; rfl⟩, HS.out, HBi.out⟩

end Go.Proofs.Ytogdcoioflcdiaa

/- CoverOfColouring in the program. -/
namespace Go.Proofs.Ytogdcoioflcdiaa
open Go.RowKit Go.Shelf

attribute [local go_sem] Oper.semAt_some

theorem infoSlC : (Try.prog.info? 25).map (fun i => (i.zero, i.size, i.bytes)) = some (some (.slice none 0 0), 1, 24) := by kernel_rfl
theorem boxC_on {w w' : World} {B : Nat} {t : TypeId} {v : Value} (h : Boxed w B t v) (hb : Below w.heap.size w w') : Boxed w' B t v := (hb.block B h.lt).trans h
theorem boxedC_at (w : World) (g : Nat) (t : TypeId) (v : Value) (hg : g = w.heap.size) : Boxed (w.alloc (.cells #[v] t)) g t v := by subst hg; exact Boxed.new w t v
theorem rowsV_one (ba : Nat) (Ms : List (List Int)) : ∀ u ∈ rowsV ba Ms, u.oneCell' = true := fun u hu => by
  unfold rowsV at hu
  obtain ⟨i, _, rfl⟩ := List.mem_map.1 hu
  rfl
/-- The cycles without one colour, by the number of the pair; and those of some pairs. -/
def cvG (es : List (Int × Int)) (cs : List Int) (n : Nat) (x : Nat) : List (List Int) := cycX es (colSet cs (2 - (x : Int)) n) (colSet cs (2 - (x : Int)) n).length
def cvP (es : List (Int × Int)) (cs : List Int) (pre : List Nat) : List (List Int) := pre.flatMap (cvG es cs es.length)
theorem cvP_push (es : List (Int × Int)) (cs : List Int) (pre : List Nat) (x : Nat) : cvP es cs (pre ++ [x]) = cvP es cs pre ++ cvG es cs es.length x := by
  unfold cvP
  rw [List.flatMap_append]
  simp
theorem cvP_three (es : List (Int × Int)) (cs : List Int) : cvP es cs (List.range 3) = cvU es cs 3 := by
  show cvP es cs [0, 1, 2] = _
  unfold cvP
  simp [cvU, cvG]
theorem cvP_len (es : List (Int × Int)) (cs : List Int) : ∀ pre : List Nat, (cvP es cs pre).length ≤ pre.length * es.length
  | [] => by simp [cvP]
  | x :: pre => by
    have h1 := cvP_len es cs pre
    have h3 := cycX_len es (colSet cs (2 - (x : Int)) es.length) (colSet cs (2 - (x : Int)) es.length).length
    have h4 : (colSet cs (2 - (x : Int)) es.length).length ≤ es.length := numsB_len _ _
    unfold cvP at h1 ⊢
    rw [List.flatMap_cons, List.length_append, List.length_cons, Nat.add_mul]
    unfold cvG at h1 ⊢
    omega
/-- An append at a step of a region that draws its order, in a round. -/
theorem stepIn_append_own {F : Fence} {nF : Nat} {P : Program} {w : World} {ops : Array Oper} {o : Oper} {a : Act} {K : Act → World → Prop} {Q : Exit → Act → World → Prop} {E : Prop} (hgd : o.guard = none) (s x : Operand) (t : TypeId)
    (hop : o.op = Op.call { callee := Callee.builtin Builtin.append, args := #[s, x], argTypes := #[t, t] })
    (base : Nat) (e : TypeId) (i : TypeInfo) (z : Value) (size bytes : Nat) (h1 : P.underlying t = some (.slice e)) (h2 : P.info? e = some i) (h3 : i.zero = some z) (h4 : i.size = size) (h5 : i.bytes = bytes) (h6 : z.cells.size = size) (h7 : 0 < size)
    (v : Value) (k : Nat) (xs : List Value) (hs : a.eval s = v) (hown : w.ownsRow base e size v k xs) (ad : Addr) (m c : Nat) (news : List Value) (hx : a.eval x = .slice (some ad) m c) (hn : news.length = m * size)
    (hc : ∀ j u, news[j]? = some u → w.cell? (ad.add j) = some u) (h1c : ∀ u ∈ news, u.oneCell' = true) (b1 : k + m ≤ maxLen) (b2 : (k + m) * bytes ≤ 140737488355328) (b3 : base ≤ w.heap.size)
    (hK : ∀ v' w', w'.ownsRow base e size v' (k + m) (xs ++ news) → w.grownBy w' v.ownBlock → K (a.put o.dst v') w') :
    if Region.wanted o (yielded ops a.tmps) = true then Oper.wpIn F nF P o a w K Q else E := by
  have hw : Region.wanted o (yielded ops a.tmps) = true := by simp [Region.wanted, hgd]
  rw [if_pos hw]
  obtain ⟨v', w', hrun, r1, r2, r3⟩ := run_append_own (P := P) w base t o.type e i z size bytes h1 h2 h3 h4 h5 h6 h7 v k xs hown ad m c news hn hc h1c b1 b2 b3
  unfold Oper.wpIn
  refine ⟨?_, ?_⟩
  · simp [Oper.about, hop, resolve, Target.leads, Sem.run_pure]
  · rw [Oper.semAt_plain F _ _ (by rw [hop]; intro c hc'; cases hc')]
    simp [execOp, hop, resolve, invoke, builtin, hs, hx, hrun, Result.andThen]
    exact hK v' w' r1 r2

set_option maxRecDepth 100000 in
set_option maxHeartbeats 16000000 in
theorem iCv_yes (N : Nat) (b off n c cb co f : Nat) (es : List (Int × Int)) (cs : List Int) (w : World) (hn : es.length = n) (hr : ReadsE w b off es) (g : IsG N es) (hl : cs.length = n) (hrc : ReadsI w cb co cs) (gc : isColP es cs) (hin : inR cs) :
    Calls Try.prog 35 #[.agg #[.int .i64 N, .slice (some ⟨b, off, none⟩) n c], .slice (some ⟨cb, co, none⟩) n f] w fun e' w' => ∃ q cap, e' = .returned (.tuple #[.slice q (cvU es cs 3).length cap, .int .i64 0]) ∧ FreshP w.heap.size w' q (cvU es cs 3).length (cvU es cs 3) ∧ Below w.heap.size w w' := by
  obtain ⟨Us, hU⟩ : ∃ Us, cvU es cs 3 = Us := ⟨_, rfl⟩
  rw [hU]
  obtain ⟨k, hk⟩ : ∃ k, Us.length = k := ⟨_, rfl⟩
  rw [hk]
  have HUs := hid hU
  have HKs := hid hk
  clear hU hk
  have hn30 : n ≤ 30 := by have := isG_len g; omega
  have hn1 : 0 < n := by have h1 := g.1.1.1; have h2 := g.1.1.2.2.2; omega
  have hcb : cb < w.heap.size := hrc.lt (by omega)
  have hbb : b < w.heap.size := reads_lt hr (by omega)
  have Hn := hid hn
  have HNn := Hn
  have Hr := hid hr
  have Hl := hid hl
  have Hrc := hid hrc
  have G := hid g
  have Gc := hid gc
  have HIn := hid hin
  obtain ⟨s0, hsi, hg0, hg1, hg2⟩ := info_parts infoSlC
  have Hs := hid hsi
  clear hn hr hl hrc g gc hin hsi
  refine (callsIn_wide (n := 6)).1 ?_
  refine callsIn_of_wp_marks Try.func35 rfl trivial ?_ rfl
  simp only [Try.ntmps35, List.size_toArray, List.length_cons, List.length_nil, Nat.reduceAdd, Nat.reduceSub, Array.replicate_succ, Array.replicate_zero, List.push_toArray, List.append_toArray, List.nil_append, List.cons_append]
  obtain ⟨w1, hw1⟩ : ∃ w1, w1 = (w.alloc (.cells #[.int .i64 N, .slice (some ⟨b, off, none⟩) n c] 31)).alloc (.cells #[.slice (some ⟨cb, co, none⟩) n f] 25) := ⟨_, rfl⟩
  have HB1 := hid (show Below w.heap.size w w1 by rw [hw1]; exact bfrom (on_alloc _ _) (on_alloc _ _))
  have HX1 := hid (show Box w1 w.heap.size N (some ⟨b, off, none⟩) n c by rw [hw1]; exact (Box.new w N (some ⟨b, off, none⟩) n c 31).on (on_alloc _ _))
  have HC1 := hid (show Boxed w1 (w.heap.size + 1) 25 (.slice (some ⟨cb, co, none⟩) n f) by rw [hw1]; exact boxedC_at _ _ _ _ (by simp))
  have HZ1 := hid (show w1.heap.size = w.heap.size + 2 by rw [hw1]; simp)
  gi_wp2
  rw [← hw1]
  clear hw1
  refine ⟨trivial, ?_⟩
  refine (callsIn_wide.2 (iIsGraph_any _ _ _ _ es w1 (by omega) Hn.out (.inr ⟨b, off, rfl, Hr.out.on HB1.out⟩))).mono ?_
  rw [decide_eq_true G.out]
  rintro e w2 ⟨rfl, hb2⟩
  have HB2 := hid (bfrom HB1.out hb2)
  have HX2 := hid (HX1.out.on hb2)
  have hx2 := HX2.out.1
  have hy2 := HX2.out.2
  have hz2 := HX2.out.lt
  have HC2 := hid (boxC_on HC1.out hb2)
  have hc2 := HC2.out.cell
  have hcz2 := HC2.out.lt
  clear hb2
  gi_wp2_with (refine ⟨trivial, ?_⟩; gi_at_call 72; refine (callsIn_wide.2 (iAreCol_any (some ⟨cb, co, none⟩) n f n cs _ Hl.out (by omega) (by omega) hn1 (.inr ⟨cb, co, rfl, Hrc.out.on HB2.out⟩))).mono ?_; rw [decide_eq_true (And.intro rfl HIn.out)]; rintro e w4 ⟨rfl, hb4⟩; have HB4 := hid (bfrom HB2.out hb4); have HX4 := hid (HX2.out.on hb4); have hx4 := HX4.out.1; have hy4 := HX4.out.2; have hz4 := HX4.out.lt; have HC4 := hid (boxC_on HC2.out hb4); have hc4 := HC4.out.cell; have hcz4 := HC4.out.lt; clear hb4)
  gi_wp2_with (refine ⟨trivial, ?_⟩; gi_at_call 73; refine (callsIn_wide.2 (iColIs_any N (some ⟨b, off, none⟩) (some ⟨cb, co, none⟩) n c n f es cs _ G.out Hn.out (.inr ⟨b, off, rfl, Hr.out.on HB4.out⟩) Hl.out (by omega) (.inr ⟨cb, co, rfl, Hrc.out.on HB4.out⟩))).mono ?_; rw [decide_eq_true Gc.out]; rintro e w5 ⟨rfl, hb5⟩; have HB5 := hid (bfrom HB4.out hb5); have HX5 := hid (HX4.out.on hb5); have hx5 := HX5.out.1; have hy5 := HX5.out.2; have hz5 := HX5.out.lt; have HC5 := hid (boxC_on HC4.out hb5); have hc5 := HC5.out.cell; have hcz5 := HC5.out.lt; clear hb5)
  refine rangeFunc_moves (n := 6) rfl (by omega) (gf := 74) (lb := #[]) rfl trivial (enters_of Try.func74 (by kernel_rfl) rfl) (A := w5.heap.size + 3) (by simp)
    (pairs_moves 4 (w5.heap.size + 3) _)
    (fun h k => keptE_t h k) (fun W l o o' h1 h2 hl ho => keptE_put hl ho)
    (fun Y Z i o h h1 h2 ho => (h.block i (Array.getElem?_eq_some_iff.1 ho).1).trans ho) (fun Y Z h => h.size) (fun x W l o o' h _ _ hl ho => h) (Below.refl _ _) (fun _ => rfl)
    (fun (pre : List Nat) W => CvAt w5.heap.size (w5.heap.size + 3) (cvP es cs pre) W ∧ Below w5.heap.size w5 W)
    (fun _ _ _ => False)
    (OwnFrom.and (Own.from (cvAt_own _ _ (cvP es cs)) _) (ownFrom_below (Nat.le_refl _) (by simp)))
    (fun _ _ _ _ _ hs _ _ => hs)
    (fun s Y Z h hm => ⟨h.1.same (fun k _ _ _ _ h2 => hm.block k (Array.getElem?_eq_some_iff.1 h2).1), h.2.trans (hm.mono h.2.size)⟩)
    (fun _ _ _ _ h _ => h)
    ⟨⟨.slice none 0 0, fun _ => (0, 0), [], boxedC_at _ _ _ _ rfl, World.ownsRow_nil _ _ _ _, ⟨rfl, fun i hi => by simp [cvP] at hi⟩, ⟨fun i hi => by simp [cvP] at hi, fun i k hi => by simp [cvP] at hi⟩⟩, on_alloc _ _⟩
    ?a1 ?assign ?body ?done ?stop
  case assign =>
    intro l x W K hK
    gi_wp2
    exact hK
  case body =>
    rintro l pre x W ⟨⟨u, pl, vals, hu, hrow, hV, hR⟩, hB⟩ hX hA hlt
    obtain ⟨K, hK⟩ : ∃ K, (cvP es cs pre).length = K := ⟨_, rfl⟩
    rw [hK] at hrow
    obtain ⟨q, cap, rfl⟩ := row_formC hrow
    have hK90 : K ≤ 90 := by
      have h1 := cvP_len es cs pre
      have h2 : pre.length * es.length ≤ 3 * 30 := Nat.mul_le_mul (by omega) (by have := Hn.out; omega)
      omega
    have HBW5 := hid hB
    have HBW := hid (bfrom HB5.out hB)
    have hWs := HBW.out.size
    have HU := hid hu
    have HRow := hid hrow
    have HV := hid hV
    have HR := hid hR
    have HK := hid hK
    have HTw := hid (colTwo_set HIn.out hX n (by rw [Hl.out]; exact Nat.le_refl _))
    have HEV := hid (show evenP N es (colSet cs (2 - (x : Int)) n) by have h := colSet_even G.out Gc.out (l := 2 - (x : Int)) ⟨by omega, by omega⟩; rwa [Hn.out] at h)
    have HPO := hid (show 0 < (colSet cs (2 - (x : Int)) n).length by have h := colSet_pos G.out Gc.out (l := 2 - (x : Int)); rwa [Hn.out] at h)
    have HXW := hid (HX5.out.on hB)
    have hxW := HXW.out.1
    have hyW := HXW.out.2
    have hzW := HXW.out.lt
    have HCW := hid (boxC_on HC5.out hB)
    have hcW := HCW.out.cell
    have hczW := HCW.out.lt
    have hcu := hu.cell
    have hfu := hu.frozen
    have hzu := hu.lt
    clear hu hrow hV hR hK hB hX hx2 hy2 hc2 hx4 hy4 hc4 hx5 hy5 hc5
    gi_wp2
    refine region_round rfl (by kernel_rfl) (by kernel_rfl) ?_
    refine wpAnyIn_take (i := 3) (v := .int .i64 (prA x)) rfl rfl (by kernel_rfl) (by kernel_rfl) (by kernel_rfl) (fun _ _ _ h => h) ⟨Or.inl ⟨by rfl, by (intro w'; go_simp)⟩, fun _ => rfl⟩ ?_
    refine wpAnyIn_take (i := 4) (v := .int .i64 (prB x)) rfl rfl (by kernel_rfl) (by kernel_rfl) (by kernel_rfl) (fun _ _ _ h => h) ⟨Or.inl ⟨by rfl, by (intro w'; go_simp)⟩, fun _ => rfl⟩ ?_
    refine wpAnyIn_ready (rs := [0, 1, 2]) (by kernel_rfl) (by simp) ?_
    refine AllReadyIn.cons rfl (fun K' hK => ?_) ?_
    · go_simp
      refine hK _ _ ?_
      clear hK K'
      refine wpAnyIn_ready (rs := [1, 2]) (by kernel_rfl) (by simp) ?_
      refine AllReadyIn.cons rfl (fun K' hK => ?_) ?_
      · go_simp
        refine hK _ _ ?_
        clear hK K'
        refine wpAnyIn_ready (rs := [2]) (by kernel_rfl) (by simp) ?_
        refine AllReadyIn.cons rfl (fun K' hK => ?_) ?_
        · go_simp
          refine hK _ _ ?_
          clear hK K'
          refine wpAnyIn_ready (rs := [5]) (by kernel_rfl) (by simp) ?_
          refine AllReadyIn.cons rfl (fun K' hK => ?_) ?_
          · go_simp
            refine ⟨trivial, ?_⟩
            gi_at_call 75
            refine (callsIn_wide.2 (iEdgesOf_any cb co n f (prA x) (prB x) cs _ Hl.out hn30 ((Hrc.out.on HBW.out).on (Below.refl _ _).drew))).mono ?_
            rintro e' W4 ⟨q4, cap4, rfl, hf4, hb4⟩
            have HB4 := hid (show Below W.heap.size W W4 from ⟨hb4.os, hb4.tape, hb4.output, hb4.size, hb4.block⟩)
            rw [HTw.out] at hf4 ⊢
            obtain ⟨S, hS⟩ : ∃ S, colSet cs (2 - (x : Int)) n = S := ⟨_, rfl⟩
            obtain ⟨l4, hl4⟩ : ∃ l4, (colSet cs (2 - (x : Int)) n).length = l4 := ⟨_, rfl⟩
            rw [hl4] at hf4 ⊢
            have HL4 := hid hl4
            have HF4 := hid hf4.sees
            have h4s := HB4.out.size
            have HX4 := hid (HXW.out.on HB4.out)
            have hx4 := HX4.out.1
            have hy4 := HX4.out.2
            have hz4 := HX4.out.lt
            have HU4 := hid (boxC_on HU.out HB4.out)
            have hcu4 := HU4.out.cell
            have hzu4 := HU4.out.lt
            clear hf4 hb4 hl4
            refine hK _ _ ?_
            clear hK K'
            refine wpAnyIn_ready (rs := [6]) (by kernel_rfl) (by simp) ?_
            refine AllReadyIn.cons rfl (fun K' hK => ?_) ?_
            · go_simp
              refine ⟨trivial, ?_⟩
              gi_at_call 65
              refine (callsIn_wide.2 (iCycO_any N b off n c l4 cap4 q4 es (colSet cs (2 - (x : Int)) n) _ Hn.out (Hr.out.on (HBW.out.trans (HB4.out.mono hWs))) G.out HL4.out HF4.out (colSet_set _ _ _) HEV.out)).mono ?_
              rintro e' W5 ⟨q5, cap5, ba, rfl, hr5, ho5, hba, hb5⟩
              have HB5 := hid (show Below W.heap.size W W5 from HB4.out.trans (hb5.mono HB4.out.size))
              have HBA := hid (show W.heap.size ≤ ba by have := HB4.out.size; omega)
              obtain ⟨Ms, hMs⟩ : ∃ Ms, cycX es (colSet cs (2 - (x : Int)) n) l4 = Ms := ⟨_, rfl⟩
              have hpos := cycX_pos es (colSet cs (2 - (x : Int)) n) l4 (by have h := HPO.out; rw [HL4.out] at h; exact h)
              have h30 : (cycX es (colSet cs (2 - (x : Int)) n) l4).length ≤ 30 := by have h1 := cycX_len es (colSet cs (2 - (x : Int)) n) l4; have h2 : (colSet cs (2 - (x : Int)) n).length ≤ n := numsB_len _ _; rw [HL4.out] at h2; omega
              rw [hMs] at hr5 ho5 hpos h30 ⊢
              obtain ⟨M, hM⟩ : ∃ M, Ms.length = M := ⟨_, rfl⟩
              rw [hM] at hr5 hpos h30 ⊢
              obtain ⟨g5, rfl⟩ : ∃ g5, q5 = some ⟨g5, 0, none⟩ := by
                rcases hr5.2 with ⟨_, h0⟩ | ⟨g, c', cur, hv, _⟩
                · omega
                · injection hv with v1
                  exact ⟨g, v1⟩
              have HMs := hid hMs
              have HM := hid hM
              have HO5 := hid ho5
              have HR5 := hid hr5
              have hs5 := HB5.out.size
              have HRow5 := hid (rowC_same HRow.out (fun k' _ _ _ _ h2 => HB5.out.block k' (Array.getElem?_eq_some_iff.1 h2).1))
              have HU5 := hid (boxC_on HU.out HB5.out)
              have hcu5 := HU5.out.cell
              have hfu5 := HU5.out.frozen
              have hzu5 := HU5.out.lt
              clear hr5 ho5 hba hb5 hMs hM hpos
              refine hK _ _ ?_
              clear hK K'
              refine wpAnyIn_ready (rs := [7]) (by kernel_rfl) (by simp) ?_
              refine AllReadyIn.cons rfl (fun K' hK => ?_) ?_
              · refine stepIn_append_own rfl (.tmp 24) (.tmp 30) 42 rfl (w5.heap.size + 3) 25 s0 (.slice none 0 0) 1 24 Try.underlying42 Hs.out hg0 hg1 hg2 rfl (by decide) (.slice q K cap) K vals rfl HRow5.out ⟨g5, 0, none⟩ M cap5 (rowsV ba Ms) rfl (by rw [rowsV_len, HM.out, Nat.mul_one]) (fun j u hj => HR5.out.cells (g := g5) rfl j u hj) (rowsV_one ba Ms) (by unfold maxLen; omega) (by omega) (by omega) ?_
                intro v' w9 hown9 hgrow9
                obtain ⟨q9, cap9, rfl⟩ := row_formC hown9
                have hu9 := HU5.out.kept hgrow9 (HU5.out.not_row (by decide) HRow5.out)
                have hcu9 := hu9.cell
                have hfu9 := hu9.frozen
                have hzu9 := hu9.lt
                refine hK _ _ ?_
                clear hK K'
                refine wpAnyIn_ready (rs := [8]) (by kernel_rfl) (by simp) ?_
                refine AllReadyIn.cons rfl (fun K' hK => ?_) ?_
                · go_simp
                  refine hK _ _ ?_
                  clear hK K'
                  refine wpAnyIn_done (by kernel_rfl) ?_ _
                  gi_wp2
                  obtain ⟨f1, f2, f3, f4⟩ := cv_push (B := w5.heap.size) (A := w5.heap.size + 3) (M := M) HU.out HRow.out HK.out HV.out HR.out HB5.out (by omega) (by omega) HO5.out HBA.out hown9 HM.out hgrow9
                  exact ⟨f1 _, f2, by rw [cvP_push, HNn.out]; unfold cvG; rw [HL4.out, HMs.out]; exact f3, HBW5.out.trans f4⟩
                exact AllReadyIn.nil
              exact AllReadyIn.nil
            exact AllReadyIn.nil
          exact AllReadyIn.nil
        exact AllReadyIn.nil
      refine AllReadyIn.cons rfl (fun K' hK => ?_) ?_
      · go_simp
        refine hK _ _ ?_
        clear hK K'
        refine wpAnyIn_ready (rs := [1, 5]) (by kernel_rfl) (by simp) ?_
        refine AllReadyIn.cons rfl (fun K' hK => ?_) ?_
        · go_simp
          refine hK _ _ ?_
          clear hK K'
          refine wpAnyIn_ready (rs := [5]) (by kernel_rfl) (by simp) ?_
          refine AllReadyIn.cons rfl (fun K' hK => ?_) ?_
          · go_simp
            refine ⟨trivial, ?_⟩
            gi_at_call 75
            refine (callsIn_wide.2 (iEdgesOf_any cb co n f (prA x) (prB x) cs _ Hl.out hn30 ((Hrc.out.on HBW.out).on (Below.refl _ _).drew))).mono ?_
            rintro e' W4 ⟨q4, cap4, rfl, hf4, hb4⟩
            have HB4 := hid (show Below W.heap.size W W4 from ⟨hb4.os, hb4.tape, hb4.output, hb4.size, hb4.block⟩)
            rw [HTw.out] at hf4 ⊢
            obtain ⟨S, hS⟩ : ∃ S, colSet cs (2 - (x : Int)) n = S := ⟨_, rfl⟩
            obtain ⟨l4, hl4⟩ : ∃ l4, (colSet cs (2 - (x : Int)) n).length = l4 := ⟨_, rfl⟩
            rw [hl4] at hf4 ⊢
            have HL4 := hid hl4
            have HF4 := hid hf4.sees
            have h4s := HB4.out.size
            have HX4 := hid (HXW.out.on HB4.out)
            have hx4 := HX4.out.1
            have hy4 := HX4.out.2
            have hz4 := HX4.out.lt
            have HU4 := hid (boxC_on HU.out HB4.out)
            have hcu4 := HU4.out.cell
            have hzu4 := HU4.out.lt
            clear hf4 hb4 hl4
            refine hK _ _ ?_
            clear hK K'
            refine wpAnyIn_ready (rs := [6]) (by kernel_rfl) (by simp) ?_
            refine AllReadyIn.cons rfl (fun K' hK => ?_) ?_
            · go_simp
              refine ⟨trivial, ?_⟩
              gi_at_call 65
              refine (callsIn_wide.2 (iCycO_any N b off n c l4 cap4 q4 es (colSet cs (2 - (x : Int)) n) _ Hn.out (Hr.out.on (HBW.out.trans (HB4.out.mono hWs))) G.out HL4.out HF4.out (colSet_set _ _ _) HEV.out)).mono ?_
              rintro e' W5 ⟨q5, cap5, ba, rfl, hr5, ho5, hba, hb5⟩
              have HB5 := hid (show Below W.heap.size W W5 from HB4.out.trans (hb5.mono HB4.out.size))
              have HBA := hid (show W.heap.size ≤ ba by have := HB4.out.size; omega)
              obtain ⟨Ms, hMs⟩ : ∃ Ms, cycX es (colSet cs (2 - (x : Int)) n) l4 = Ms := ⟨_, rfl⟩
              have hpos := cycX_pos es (colSet cs (2 - (x : Int)) n) l4 (by have h := HPO.out; rw [HL4.out] at h; exact h)
              have h30 : (cycX es (colSet cs (2 - (x : Int)) n) l4).length ≤ 30 := by have h1 := cycX_len es (colSet cs (2 - (x : Int)) n) l4; have h2 : (colSet cs (2 - (x : Int)) n).length ≤ n := numsB_len _ _; rw [HL4.out] at h2; omega
              rw [hMs] at hr5 ho5 hpos h30 ⊢
              obtain ⟨M, hM⟩ : ∃ M, Ms.length = M := ⟨_, rfl⟩
              rw [hM] at hr5 hpos h30 ⊢
              obtain ⟨g5, rfl⟩ : ∃ g5, q5 = some ⟨g5, 0, none⟩ := by
                rcases hr5.2 with ⟨_, h0⟩ | ⟨g, c', cur, hv, _⟩
                · omega
                · injection hv with v1
                  exact ⟨g, v1⟩
              have HMs := hid hMs
              have HM := hid hM
              have HO5 := hid ho5
              have HR5 := hid hr5
              have hs5 := HB5.out.size
              have HRow5 := hid (rowC_same HRow.out (fun k' _ _ _ _ h2 => HB5.out.block k' (Array.getElem?_eq_some_iff.1 h2).1))
              have HU5 := hid (boxC_on HU.out HB5.out)
              have hcu5 := HU5.out.cell
              have hfu5 := HU5.out.frozen
              have hzu5 := HU5.out.lt
              clear hr5 ho5 hba hb5 hMs hM hpos
              refine hK _ _ ?_
              clear hK K'
              refine wpAnyIn_ready (rs := [7]) (by kernel_rfl) (by simp) ?_
              refine AllReadyIn.cons rfl (fun K' hK => ?_) ?_
              · refine stepIn_append_own rfl (.tmp 24) (.tmp 30) 42 rfl (w5.heap.size + 3) 25 s0 (.slice none 0 0) 1 24 Try.underlying42 Hs.out hg0 hg1 hg2 rfl (by decide) (.slice q K cap) K vals rfl HRow5.out ⟨g5, 0, none⟩ M cap5 (rowsV ba Ms) rfl (by rw [rowsV_len, HM.out, Nat.mul_one]) (fun j u hj => HR5.out.cells (g := g5) rfl j u hj) (rowsV_one ba Ms) (by unfold maxLen; omega) (by omega) (by omega) ?_
                intro v' w9 hown9 hgrow9
                obtain ⟨q9, cap9, rfl⟩ := row_formC hown9
                have hu9 := HU5.out.kept hgrow9 (HU5.out.not_row (by decide) HRow5.out)
                have hcu9 := hu9.cell
                have hfu9 := hu9.frozen
                have hzu9 := hu9.lt
                refine hK _ _ ?_
                clear hK K'
                refine wpAnyIn_ready (rs := [8]) (by kernel_rfl) (by simp) ?_
                refine AllReadyIn.cons rfl (fun K' hK => ?_) ?_
                · go_simp
                  refine hK _ _ ?_
                  clear hK K'
                  refine wpAnyIn_done (by kernel_rfl) ?_ _
                  gi_wp2
                  obtain ⟨f1, f2, f3, f4⟩ := cv_push (B := w5.heap.size) (A := w5.heap.size + 3) (M := M) HU.out HRow.out HK.out HV.out HR.out HB5.out (by omega) (by omega) HO5.out HBA.out hown9 HM.out hgrow9
                  exact ⟨f1 _, f2, by rw [cvP_push, HNn.out]; unfold cvG; rw [HL4.out, HMs.out]; exact f3, HBW5.out.trans f4⟩
                exact AllReadyIn.nil
              exact AllReadyIn.nil
            exact AllReadyIn.nil
          exact AllReadyIn.nil
        refine AllReadyIn.cons rfl (fun K' hK => ?_) ?_
        · go_simp
          refine ⟨trivial, ?_⟩
          gi_at_call 75
          refine (callsIn_wide.2 (iEdgesOf_any cb co n f (prA x) (prB x) cs _ Hl.out hn30 ((Hrc.out.on HBW.out).on (Below.refl _ _).drew))).mono ?_
          rintro e' W4 ⟨q4, cap4, rfl, hf4, hb4⟩
          have HB4 := hid (show Below W.heap.size W W4 from ⟨hb4.os, hb4.tape, hb4.output, hb4.size, hb4.block⟩)
          rw [HTw.out] at hf4 ⊢
          obtain ⟨S, hS⟩ : ∃ S, colSet cs (2 - (x : Int)) n = S := ⟨_, rfl⟩
          obtain ⟨l4, hl4⟩ : ∃ l4, (colSet cs (2 - (x : Int)) n).length = l4 := ⟨_, rfl⟩
          rw [hl4] at hf4 ⊢
          have HL4 := hid hl4
          have HF4 := hid hf4.sees
          have h4s := HB4.out.size
          have HX4 := hid (HXW.out.on HB4.out)
          have hx4 := HX4.out.1
          have hy4 := HX4.out.2
          have hz4 := HX4.out.lt
          have HU4 := hid (boxC_on HU.out HB4.out)
          have hcu4 := HU4.out.cell
          have hzu4 := HU4.out.lt
          clear hf4 hb4 hl4
          refine hK _ _ ?_
          clear hK K'
          refine wpAnyIn_ready (rs := [1]) (by kernel_rfl) (by simp) ?_
          refine AllReadyIn.cons rfl (fun K' hK => ?_) ?_
          · go_simp
            refine hK _ _ ?_
            clear hK K'
            refine wpAnyIn_ready (rs := [6]) (by kernel_rfl) (by simp) ?_
            refine AllReadyIn.cons rfl (fun K' hK => ?_) ?_
            · go_simp
              refine ⟨trivial, ?_⟩
              gi_at_call 65
              refine (callsIn_wide.2 (iCycO_any N b off n c l4 cap4 q4 es (colSet cs (2 - (x : Int)) n) _ Hn.out (Hr.out.on (HBW.out.trans (HB4.out.mono hWs))) G.out HL4.out HF4.out (colSet_set _ _ _) HEV.out)).mono ?_
              rintro e' W5 ⟨q5, cap5, ba, rfl, hr5, ho5, hba, hb5⟩
              have HB5 := hid (show Below W.heap.size W W5 from HB4.out.trans (hb5.mono HB4.out.size))
              have HBA := hid (show W.heap.size ≤ ba by have := HB4.out.size; omega)
              obtain ⟨Ms, hMs⟩ : ∃ Ms, cycX es (colSet cs (2 - (x : Int)) n) l4 = Ms := ⟨_, rfl⟩
              have hpos := cycX_pos es (colSet cs (2 - (x : Int)) n) l4 (by have h := HPO.out; rw [HL4.out] at h; exact h)
              have h30 : (cycX es (colSet cs (2 - (x : Int)) n) l4).length ≤ 30 := by have h1 := cycX_len es (colSet cs (2 - (x : Int)) n) l4; have h2 : (colSet cs (2 - (x : Int)) n).length ≤ n := numsB_len _ _; rw [HL4.out] at h2; omega
              rw [hMs] at hr5 ho5 hpos h30 ⊢
              obtain ⟨M, hM⟩ : ∃ M, Ms.length = M := ⟨_, rfl⟩
              rw [hM] at hr5 hpos h30 ⊢
              obtain ⟨g5, rfl⟩ : ∃ g5, q5 = some ⟨g5, 0, none⟩ := by
                rcases hr5.2 with ⟨_, h0⟩ | ⟨g, c', cur, hv, _⟩
                · omega
                · injection hv with v1
                  exact ⟨g, v1⟩
              have HMs := hid hMs
              have HM := hid hM
              have HO5 := hid ho5
              have HR5 := hid hr5
              have hs5 := HB5.out.size
              have HRow5 := hid (rowC_same HRow.out (fun k' _ _ _ _ h2 => HB5.out.block k' (Array.getElem?_eq_some_iff.1 h2).1))
              have HU5 := hid (boxC_on HU.out HB5.out)
              have hcu5 := HU5.out.cell
              have hfu5 := HU5.out.frozen
              have hzu5 := HU5.out.lt
              clear hr5 ho5 hba hb5 hMs hM hpos
              refine hK _ _ ?_
              clear hK K'
              refine wpAnyIn_ready (rs := [7]) (by kernel_rfl) (by simp) ?_
              refine AllReadyIn.cons rfl (fun K' hK => ?_) ?_
              · refine stepIn_append_own rfl (.tmp 24) (.tmp 30) 42 rfl (w5.heap.size + 3) 25 s0 (.slice none 0 0) 1 24 Try.underlying42 Hs.out hg0 hg1 hg2 rfl (by decide) (.slice q K cap) K vals rfl HRow5.out ⟨g5, 0, none⟩ M cap5 (rowsV ba Ms) rfl (by rw [rowsV_len, HM.out, Nat.mul_one]) (fun j u hj => HR5.out.cells (g := g5) rfl j u hj) (rowsV_one ba Ms) (by unfold maxLen; omega) (by omega) (by omega) ?_
                intro v' w9 hown9 hgrow9
                obtain ⟨q9, cap9, rfl⟩ := row_formC hown9
                have hu9 := HU5.out.kept hgrow9 (HU5.out.not_row (by decide) HRow5.out)
                have hcu9 := hu9.cell
                have hfu9 := hu9.frozen
                have hzu9 := hu9.lt
                refine hK _ _ ?_
                clear hK K'
                refine wpAnyIn_ready (rs := [8]) (by kernel_rfl) (by simp) ?_
                refine AllReadyIn.cons rfl (fun K' hK => ?_) ?_
                · go_simp
                  refine hK _ _ ?_
                  clear hK K'
                  refine wpAnyIn_done (by kernel_rfl) ?_ _
                  gi_wp2
                  obtain ⟨f1, f2, f3, f4⟩ := cv_push (B := w5.heap.size) (A := w5.heap.size + 3) (M := M) HU.out HRow.out HK.out HV.out HR.out HB5.out (by omega) (by omega) HO5.out HBA.out hown9 HM.out hgrow9
                  exact ⟨f1 _, f2, by rw [cvP_push, HNn.out]; unfold cvG; rw [HL4.out, HMs.out]; exact f3, HBW5.out.trans f4⟩
                exact AllReadyIn.nil
              exact AllReadyIn.nil
            exact AllReadyIn.nil
          exact AllReadyIn.nil
        exact AllReadyIn.nil
      exact AllReadyIn.nil
    refine AllReadyIn.cons rfl (fun K' hK => ?_) ?_
    · go_simp
      refine hK _ _ ?_
      clear hK K'
      refine wpAnyIn_ready (rs := [0, 2]) (by kernel_rfl) (by simp) ?_
      refine AllReadyIn.cons rfl (fun K' hK => ?_) ?_
      · go_simp
        refine hK _ _ ?_
        clear hK K'
        refine wpAnyIn_ready (rs := [2]) (by kernel_rfl) (by simp) ?_
        refine AllReadyIn.cons rfl (fun K' hK => ?_) ?_
        · go_simp
          refine hK _ _ ?_
          clear hK K'
          refine wpAnyIn_ready (rs := [5]) (by kernel_rfl) (by simp) ?_
          refine AllReadyIn.cons rfl (fun K' hK => ?_) ?_
          · go_simp
            refine ⟨trivial, ?_⟩
            gi_at_call 75
            refine (callsIn_wide.2 (iEdgesOf_any cb co n f (prA x) (prB x) cs _ Hl.out hn30 ((Hrc.out.on HBW.out).on (Below.refl _ _).drew))).mono ?_
            rintro e' W4 ⟨q4, cap4, rfl, hf4, hb4⟩
            have HB4 := hid (show Below W.heap.size W W4 from ⟨hb4.os, hb4.tape, hb4.output, hb4.size, hb4.block⟩)
            rw [HTw.out] at hf4 ⊢
            obtain ⟨S, hS⟩ : ∃ S, colSet cs (2 - (x : Int)) n = S := ⟨_, rfl⟩
            obtain ⟨l4, hl4⟩ : ∃ l4, (colSet cs (2 - (x : Int)) n).length = l4 := ⟨_, rfl⟩
            rw [hl4] at hf4 ⊢
            have HL4 := hid hl4
            have HF4 := hid hf4.sees
            have h4s := HB4.out.size
            have HX4 := hid (HXW.out.on HB4.out)
            have hx4 := HX4.out.1
            have hy4 := HX4.out.2
            have hz4 := HX4.out.lt
            have HU4 := hid (boxC_on HU.out HB4.out)
            have hcu4 := HU4.out.cell
            have hzu4 := HU4.out.lt
            clear hf4 hb4 hl4
            refine hK _ _ ?_
            clear hK K'
            refine wpAnyIn_ready (rs := [6]) (by kernel_rfl) (by simp) ?_
            refine AllReadyIn.cons rfl (fun K' hK => ?_) ?_
            · go_simp
              refine ⟨trivial, ?_⟩
              gi_at_call 65
              refine (callsIn_wide.2 (iCycO_any N b off n c l4 cap4 q4 es (colSet cs (2 - (x : Int)) n) _ Hn.out (Hr.out.on (HBW.out.trans (HB4.out.mono hWs))) G.out HL4.out HF4.out (colSet_set _ _ _) HEV.out)).mono ?_
              rintro e' W5 ⟨q5, cap5, ba, rfl, hr5, ho5, hba, hb5⟩
              have HB5 := hid (show Below W.heap.size W W5 from HB4.out.trans (hb5.mono HB4.out.size))
              have HBA := hid (show W.heap.size ≤ ba by have := HB4.out.size; omega)
              obtain ⟨Ms, hMs⟩ : ∃ Ms, cycX es (colSet cs (2 - (x : Int)) n) l4 = Ms := ⟨_, rfl⟩
              have hpos := cycX_pos es (colSet cs (2 - (x : Int)) n) l4 (by have h := HPO.out; rw [HL4.out] at h; exact h)
              have h30 : (cycX es (colSet cs (2 - (x : Int)) n) l4).length ≤ 30 := by have h1 := cycX_len es (colSet cs (2 - (x : Int)) n) l4; have h2 : (colSet cs (2 - (x : Int)) n).length ≤ n := numsB_len _ _; rw [HL4.out] at h2; omega
              rw [hMs] at hr5 ho5 hpos h30 ⊢
              obtain ⟨M, hM⟩ : ∃ M, Ms.length = M := ⟨_, rfl⟩
              rw [hM] at hr5 hpos h30 ⊢
              obtain ⟨g5, rfl⟩ : ∃ g5, q5 = some ⟨g5, 0, none⟩ := by
                rcases hr5.2 with ⟨_, h0⟩ | ⟨g, c', cur, hv, _⟩
                · omega
                · injection hv with v1
                  exact ⟨g, v1⟩
              have HMs := hid hMs
              have HM := hid hM
              have HO5 := hid ho5
              have HR5 := hid hr5
              have hs5 := HB5.out.size
              have HRow5 := hid (rowC_same HRow.out (fun k' _ _ _ _ h2 => HB5.out.block k' (Array.getElem?_eq_some_iff.1 h2).1))
              have HU5 := hid (boxC_on HU.out HB5.out)
              have hcu5 := HU5.out.cell
              have hfu5 := HU5.out.frozen
              have hzu5 := HU5.out.lt
              clear hr5 ho5 hba hb5 hMs hM hpos
              refine hK _ _ ?_
              clear hK K'
              refine wpAnyIn_ready (rs := [7]) (by kernel_rfl) (by simp) ?_
              refine AllReadyIn.cons rfl (fun K' hK => ?_) ?_
              · refine stepIn_append_own rfl (.tmp 24) (.tmp 30) 42 rfl (w5.heap.size + 3) 25 s0 (.slice none 0 0) 1 24 Try.underlying42 Hs.out hg0 hg1 hg2 rfl (by decide) (.slice q K cap) K vals rfl HRow5.out ⟨g5, 0, none⟩ M cap5 (rowsV ba Ms) rfl (by rw [rowsV_len, HM.out, Nat.mul_one]) (fun j u hj => HR5.out.cells (g := g5) rfl j u hj) (rowsV_one ba Ms) (by unfold maxLen; omega) (by omega) (by omega) ?_
                intro v' w9 hown9 hgrow9
                obtain ⟨q9, cap9, rfl⟩ := row_formC hown9
                have hu9 := HU5.out.kept hgrow9 (HU5.out.not_row (by decide) HRow5.out)
                have hcu9 := hu9.cell
                have hfu9 := hu9.frozen
                have hzu9 := hu9.lt
                refine hK _ _ ?_
                clear hK K'
                refine wpAnyIn_ready (rs := [8]) (by kernel_rfl) (by simp) ?_
                refine AllReadyIn.cons rfl (fun K' hK => ?_) ?_
                · go_simp
                  refine hK _ _ ?_
                  clear hK K'
                  refine wpAnyIn_done (by kernel_rfl) ?_ _
                  gi_wp2
                  obtain ⟨f1, f2, f3, f4⟩ := cv_push (B := w5.heap.size) (A := w5.heap.size + 3) (M := M) HU.out HRow.out HK.out HV.out HR.out HB5.out (by omega) (by omega) HO5.out HBA.out hown9 HM.out hgrow9
                  exact ⟨f1 _, f2, by rw [cvP_push, HNn.out]; unfold cvG; rw [HL4.out, HMs.out]; exact f3, HBW5.out.trans f4⟩
                exact AllReadyIn.nil
              exact AllReadyIn.nil
            exact AllReadyIn.nil
          exact AllReadyIn.nil
        exact AllReadyIn.nil
      refine AllReadyIn.cons rfl (fun K' hK => ?_) ?_
      · go_simp
        refine hK _ _ ?_
        clear hK K'
        refine wpAnyIn_ready (rs := [0, 5]) (by kernel_rfl) (by simp) ?_
        refine AllReadyIn.cons rfl (fun K' hK => ?_) ?_
        · go_simp
          refine hK _ _ ?_
          clear hK K'
          refine wpAnyIn_ready (rs := [5]) (by kernel_rfl) (by simp) ?_
          refine AllReadyIn.cons rfl (fun K' hK => ?_) ?_
          · go_simp
            refine ⟨trivial, ?_⟩
            gi_at_call 75
            refine (callsIn_wide.2 (iEdgesOf_any cb co n f (prA x) (prB x) cs _ Hl.out hn30 ((Hrc.out.on HBW.out).on (Below.refl _ _).drew))).mono ?_
            rintro e' W4 ⟨q4, cap4, rfl, hf4, hb4⟩
            have HB4 := hid (show Below W.heap.size W W4 from ⟨hb4.os, hb4.tape, hb4.output, hb4.size, hb4.block⟩)
            rw [HTw.out] at hf4 ⊢
            obtain ⟨S, hS⟩ : ∃ S, colSet cs (2 - (x : Int)) n = S := ⟨_, rfl⟩
            obtain ⟨l4, hl4⟩ : ∃ l4, (colSet cs (2 - (x : Int)) n).length = l4 := ⟨_, rfl⟩
            rw [hl4] at hf4 ⊢
            have HL4 := hid hl4
            have HF4 := hid hf4.sees
            have h4s := HB4.out.size
            have HX4 := hid (HXW.out.on HB4.out)
            have hx4 := HX4.out.1
            have hy4 := HX4.out.2
            have hz4 := HX4.out.lt
            have HU4 := hid (boxC_on HU.out HB4.out)
            have hcu4 := HU4.out.cell
            have hzu4 := HU4.out.lt
            clear hf4 hb4 hl4
            refine hK _ _ ?_
            clear hK K'
            refine wpAnyIn_ready (rs := [6]) (by kernel_rfl) (by simp) ?_
            refine AllReadyIn.cons rfl (fun K' hK => ?_) ?_
            · go_simp
              refine ⟨trivial, ?_⟩
              gi_at_call 65
              refine (callsIn_wide.2 (iCycO_any N b off n c l4 cap4 q4 es (colSet cs (2 - (x : Int)) n) _ Hn.out (Hr.out.on (HBW.out.trans (HB4.out.mono hWs))) G.out HL4.out HF4.out (colSet_set _ _ _) HEV.out)).mono ?_
              rintro e' W5 ⟨q5, cap5, ba, rfl, hr5, ho5, hba, hb5⟩
              have HB5 := hid (show Below W.heap.size W W5 from HB4.out.trans (hb5.mono HB4.out.size))
              have HBA := hid (show W.heap.size ≤ ba by have := HB4.out.size; omega)
              obtain ⟨Ms, hMs⟩ : ∃ Ms, cycX es (colSet cs (2 - (x : Int)) n) l4 = Ms := ⟨_, rfl⟩
              have hpos := cycX_pos es (colSet cs (2 - (x : Int)) n) l4 (by have h := HPO.out; rw [HL4.out] at h; exact h)
              have h30 : (cycX es (colSet cs (2 - (x : Int)) n) l4).length ≤ 30 := by have h1 := cycX_len es (colSet cs (2 - (x : Int)) n) l4; have h2 : (colSet cs (2 - (x : Int)) n).length ≤ n := numsB_len _ _; rw [HL4.out] at h2; omega
              rw [hMs] at hr5 ho5 hpos h30 ⊢
              obtain ⟨M, hM⟩ : ∃ M, Ms.length = M := ⟨_, rfl⟩
              rw [hM] at hr5 hpos h30 ⊢
              obtain ⟨g5, rfl⟩ : ∃ g5, q5 = some ⟨g5, 0, none⟩ := by
                rcases hr5.2 with ⟨_, h0⟩ | ⟨g, c', cur, hv, _⟩
                · omega
                · injection hv with v1
                  exact ⟨g, v1⟩
              have HMs := hid hMs
              have HM := hid hM
              have HO5 := hid ho5
              have HR5 := hid hr5
              have hs5 := HB5.out.size
              have HRow5 := hid (rowC_same HRow.out (fun k' _ _ _ _ h2 => HB5.out.block k' (Array.getElem?_eq_some_iff.1 h2).1))
              have HU5 := hid (boxC_on HU.out HB5.out)
              have hcu5 := HU5.out.cell
              have hfu5 := HU5.out.frozen
              have hzu5 := HU5.out.lt
              clear hr5 ho5 hba hb5 hMs hM hpos
              refine hK _ _ ?_
              clear hK K'
              refine wpAnyIn_ready (rs := [7]) (by kernel_rfl) (by simp) ?_
              refine AllReadyIn.cons rfl (fun K' hK => ?_) ?_
              · refine stepIn_append_own rfl (.tmp 24) (.tmp 30) 42 rfl (w5.heap.size + 3) 25 s0 (.slice none 0 0) 1 24 Try.underlying42 Hs.out hg0 hg1 hg2 rfl (by decide) (.slice q K cap) K vals rfl HRow5.out ⟨g5, 0, none⟩ M cap5 (rowsV ba Ms) rfl (by rw [rowsV_len, HM.out, Nat.mul_one]) (fun j u hj => HR5.out.cells (g := g5) rfl j u hj) (rowsV_one ba Ms) (by unfold maxLen; omega) (by omega) (by omega) ?_
                intro v' w9 hown9 hgrow9
                obtain ⟨q9, cap9, rfl⟩ := row_formC hown9
                have hu9 := HU5.out.kept hgrow9 (HU5.out.not_row (by decide) HRow5.out)
                have hcu9 := hu9.cell
                have hfu9 := hu9.frozen
                have hzu9 := hu9.lt
                refine hK _ _ ?_
                clear hK K'
                refine wpAnyIn_ready (rs := [8]) (by kernel_rfl) (by simp) ?_
                refine AllReadyIn.cons rfl (fun K' hK => ?_) ?_
                · go_simp
                  refine hK _ _ ?_
                  clear hK K'
                  refine wpAnyIn_done (by kernel_rfl) ?_ _
                  gi_wp2
                  obtain ⟨f1, f2, f3, f4⟩ := cv_push (B := w5.heap.size) (A := w5.heap.size + 3) (M := M) HU.out HRow.out HK.out HV.out HR.out HB5.out (by omega) (by omega) HO5.out HBA.out hown9 HM.out hgrow9
                  exact ⟨f1 _, f2, by rw [cvP_push, HNn.out]; unfold cvG; rw [HL4.out, HMs.out]; exact f3, HBW5.out.trans f4⟩
                exact AllReadyIn.nil
              exact AllReadyIn.nil
            exact AllReadyIn.nil
          exact AllReadyIn.nil
        refine AllReadyIn.cons rfl (fun K' hK => ?_) ?_
        · go_simp
          refine ⟨trivial, ?_⟩
          gi_at_call 75
          refine (callsIn_wide.2 (iEdgesOf_any cb co n f (prA x) (prB x) cs _ Hl.out hn30 ((Hrc.out.on HBW.out).on (Below.refl _ _).drew))).mono ?_
          rintro e' W4 ⟨q4, cap4, rfl, hf4, hb4⟩
          have HB4 := hid (show Below W.heap.size W W4 from ⟨hb4.os, hb4.tape, hb4.output, hb4.size, hb4.block⟩)
          rw [HTw.out] at hf4 ⊢
          obtain ⟨S, hS⟩ : ∃ S, colSet cs (2 - (x : Int)) n = S := ⟨_, rfl⟩
          obtain ⟨l4, hl4⟩ : ∃ l4, (colSet cs (2 - (x : Int)) n).length = l4 := ⟨_, rfl⟩
          rw [hl4] at hf4 ⊢
          have HL4 := hid hl4
          have HF4 := hid hf4.sees
          have h4s := HB4.out.size
          have HX4 := hid (HXW.out.on HB4.out)
          have hx4 := HX4.out.1
          have hy4 := HX4.out.2
          have hz4 := HX4.out.lt
          have HU4 := hid (boxC_on HU.out HB4.out)
          have hcu4 := HU4.out.cell
          have hzu4 := HU4.out.lt
          clear hf4 hb4 hl4
          refine hK _ _ ?_
          clear hK K'
          refine wpAnyIn_ready (rs := [0, 6]) (by kernel_rfl) (by simp) ?_
          refine AllReadyIn.cons rfl (fun K' hK => ?_) ?_
          · go_simp
            refine hK _ _ ?_
            clear hK K'
            refine wpAnyIn_ready (rs := [6]) (by kernel_rfl) (by simp) ?_
            refine AllReadyIn.cons rfl (fun K' hK => ?_) ?_
            · go_simp
              refine ⟨trivial, ?_⟩
              gi_at_call 65
              refine (callsIn_wide.2 (iCycO_any N b off n c l4 cap4 q4 es (colSet cs (2 - (x : Int)) n) _ Hn.out (Hr.out.on (HBW.out.trans (HB4.out.mono hWs))) G.out HL4.out HF4.out (colSet_set _ _ _) HEV.out)).mono ?_
              rintro e' W5 ⟨q5, cap5, ba, rfl, hr5, ho5, hba, hb5⟩
              have HB5 := hid (show Below W.heap.size W W5 from HB4.out.trans (hb5.mono HB4.out.size))
              have HBA := hid (show W.heap.size ≤ ba by have := HB4.out.size; omega)
              obtain ⟨Ms, hMs⟩ : ∃ Ms, cycX es (colSet cs (2 - (x : Int)) n) l4 = Ms := ⟨_, rfl⟩
              have hpos := cycX_pos es (colSet cs (2 - (x : Int)) n) l4 (by have h := HPO.out; rw [HL4.out] at h; exact h)
              have h30 : (cycX es (colSet cs (2 - (x : Int)) n) l4).length ≤ 30 := by have h1 := cycX_len es (colSet cs (2 - (x : Int)) n) l4; have h2 : (colSet cs (2 - (x : Int)) n).length ≤ n := numsB_len _ _; rw [HL4.out] at h2; omega
              rw [hMs] at hr5 ho5 hpos h30 ⊢
              obtain ⟨M, hM⟩ : ∃ M, Ms.length = M := ⟨_, rfl⟩
              rw [hM] at hr5 hpos h30 ⊢
              obtain ⟨g5, rfl⟩ : ∃ g5, q5 = some ⟨g5, 0, none⟩ := by
                rcases hr5.2 with ⟨_, h0⟩ | ⟨g, c', cur, hv, _⟩
                · omega
                · injection hv with v1
                  exact ⟨g, v1⟩
              have HMs := hid hMs
              have HM := hid hM
              have HO5 := hid ho5
              have HR5 := hid hr5
              have hs5 := HB5.out.size
              have HRow5 := hid (rowC_same HRow.out (fun k' _ _ _ _ h2 => HB5.out.block k' (Array.getElem?_eq_some_iff.1 h2).1))
              have HU5 := hid (boxC_on HU.out HB5.out)
              have hcu5 := HU5.out.cell
              have hfu5 := HU5.out.frozen
              have hzu5 := HU5.out.lt
              clear hr5 ho5 hba hb5 hMs hM hpos
              refine hK _ _ ?_
              clear hK K'
              refine wpAnyIn_ready (rs := [7]) (by kernel_rfl) (by simp) ?_
              refine AllReadyIn.cons rfl (fun K' hK => ?_) ?_
              · refine stepIn_append_own rfl (.tmp 24) (.tmp 30) 42 rfl (w5.heap.size + 3) 25 s0 (.slice none 0 0) 1 24 Try.underlying42 Hs.out hg0 hg1 hg2 rfl (by decide) (.slice q K cap) K vals rfl HRow5.out ⟨g5, 0, none⟩ M cap5 (rowsV ba Ms) rfl (by rw [rowsV_len, HM.out, Nat.mul_one]) (fun j u hj => HR5.out.cells (g := g5) rfl j u hj) (rowsV_one ba Ms) (by unfold maxLen; omega) (by omega) (by omega) ?_
                intro v' w9 hown9 hgrow9
                obtain ⟨q9, cap9, rfl⟩ := row_formC hown9
                have hu9 := HU5.out.kept hgrow9 (HU5.out.not_row (by decide) HRow5.out)
                have hcu9 := hu9.cell
                have hfu9 := hu9.frozen
                have hzu9 := hu9.lt
                refine hK _ _ ?_
                clear hK K'
                refine wpAnyIn_ready (rs := [8]) (by kernel_rfl) (by simp) ?_
                refine AllReadyIn.cons rfl (fun K' hK => ?_) ?_
                · go_simp
                  refine hK _ _ ?_
                  clear hK K'
                  refine wpAnyIn_done (by kernel_rfl) ?_ _
                  gi_wp2
                  obtain ⟨f1, f2, f3, f4⟩ := cv_push (B := w5.heap.size) (A := w5.heap.size + 3) (M := M) HU.out HRow.out HK.out HV.out HR.out HB5.out (by omega) (by omega) HO5.out HBA.out hown9 HM.out hgrow9
                  exact ⟨f1 _, f2, by rw [cvP_push, HNn.out]; unfold cvG; rw [HL4.out, HMs.out]; exact f3, HBW5.out.trans f4⟩
                exact AllReadyIn.nil
              exact AllReadyIn.nil
            exact AllReadyIn.nil
          refine AllReadyIn.cons rfl (fun K' hK => ?_) ?_
          · go_simp
            refine ⟨trivial, ?_⟩
            gi_at_call 65
            refine (callsIn_wide.2 (iCycO_any N b off n c l4 cap4 q4 es (colSet cs (2 - (x : Int)) n) _ Hn.out (Hr.out.on (HBW.out.trans (HB4.out.mono hWs))) G.out HL4.out HF4.out (colSet_set _ _ _) HEV.out)).mono ?_
            rintro e' W5 ⟨q5, cap5, ba, rfl, hr5, ho5, hba, hb5⟩
            have HB5 := hid (show Below W.heap.size W W5 from HB4.out.trans (hb5.mono HB4.out.size))
            have HBA := hid (show W.heap.size ≤ ba by have := HB4.out.size; omega)
            obtain ⟨Ms, hMs⟩ : ∃ Ms, cycX es (colSet cs (2 - (x : Int)) n) l4 = Ms := ⟨_, rfl⟩
            have hpos := cycX_pos es (colSet cs (2 - (x : Int)) n) l4 (by have h := HPO.out; rw [HL4.out] at h; exact h)
            have h30 : (cycX es (colSet cs (2 - (x : Int)) n) l4).length ≤ 30 := by have h1 := cycX_len es (colSet cs (2 - (x : Int)) n) l4; have h2 : (colSet cs (2 - (x : Int)) n).length ≤ n := numsB_len _ _; rw [HL4.out] at h2; omega
            rw [hMs] at hr5 ho5 hpos h30 ⊢
            obtain ⟨M, hM⟩ : ∃ M, Ms.length = M := ⟨_, rfl⟩
            rw [hM] at hr5 hpos h30 ⊢
            obtain ⟨g5, rfl⟩ : ∃ g5, q5 = some ⟨g5, 0, none⟩ := by
              rcases hr5.2 with ⟨_, h0⟩ | ⟨g, c', cur, hv, _⟩
              · omega
              · injection hv with v1
                exact ⟨g, v1⟩
            have HMs := hid hMs
            have HM := hid hM
            have HO5 := hid ho5
            have HR5 := hid hr5
            have hs5 := HB5.out.size
            have HRow5 := hid (rowC_same HRow.out (fun k' _ _ _ _ h2 => HB5.out.block k' (Array.getElem?_eq_some_iff.1 h2).1))
            have HU5 := hid (boxC_on HU.out HB5.out)
            have hcu5 := HU5.out.cell
            have hfu5 := HU5.out.frozen
            have hzu5 := HU5.out.lt
            clear hr5 ho5 hba hb5 hMs hM hpos
            refine hK _ _ ?_
            clear hK K'
            refine wpAnyIn_ready (rs := [0]) (by kernel_rfl) (by simp) ?_
            refine AllReadyIn.cons rfl (fun K' hK => ?_) ?_
            · go_simp
              refine hK _ _ ?_
              clear hK K'
              refine wpAnyIn_ready (rs := [7]) (by kernel_rfl) (by simp) ?_
              refine AllReadyIn.cons rfl (fun K' hK => ?_) ?_
              · refine stepIn_append_own rfl (.tmp 24) (.tmp 30) 42 rfl (w5.heap.size + 3) 25 s0 (.slice none 0 0) 1 24 Try.underlying42 Hs.out hg0 hg1 hg2 rfl (by decide) (.slice q K cap) K vals rfl HRow5.out ⟨g5, 0, none⟩ M cap5 (rowsV ba Ms) rfl (by rw [rowsV_len, HM.out, Nat.mul_one]) (fun j u hj => HR5.out.cells (g := g5) rfl j u hj) (rowsV_one ba Ms) (by unfold maxLen; omega) (by omega) (by omega) ?_
                intro v' w9 hown9 hgrow9
                obtain ⟨q9, cap9, rfl⟩ := row_formC hown9
                have hu9 := HU5.out.kept hgrow9 (HU5.out.not_row (by decide) HRow5.out)
                have hcu9 := hu9.cell
                have hfu9 := hu9.frozen
                have hzu9 := hu9.lt
                refine hK _ _ ?_
                clear hK K'
                refine wpAnyIn_ready (rs := [8]) (by kernel_rfl) (by simp) ?_
                refine AllReadyIn.cons rfl (fun K' hK => ?_) ?_
                · go_simp
                  refine hK _ _ ?_
                  clear hK K'
                  refine wpAnyIn_done (by kernel_rfl) ?_ _
                  gi_wp2
                  obtain ⟨f1, f2, f3, f4⟩ := cv_push (B := w5.heap.size) (A := w5.heap.size + 3) (M := M) HU.out HRow.out HK.out HV.out HR.out HB5.out (by omega) (by omega) HO5.out HBA.out hown9 HM.out hgrow9
                  exact ⟨f1 _, f2, by rw [cvP_push, HNn.out]; unfold cvG; rw [HL4.out, HMs.out]; exact f3, HBW5.out.trans f4⟩
                exact AllReadyIn.nil
              exact AllReadyIn.nil
            exact AllReadyIn.nil
          exact AllReadyIn.nil
        exact AllReadyIn.nil
      exact AllReadyIn.nil
    refine AllReadyIn.cons rfl (fun K' hK => ?_) ?_
    · go_simp
      refine hK _ _ ?_
      clear hK K'
      refine wpAnyIn_ready (rs := [0, 1, 5]) (by kernel_rfl) (by simp) ?_
      refine AllReadyIn.cons rfl (fun K' hK => ?_) ?_
      · go_simp
        refine hK _ _ ?_
        clear hK K'
        refine wpAnyIn_ready (rs := [1, 5]) (by kernel_rfl) (by simp) ?_
        refine AllReadyIn.cons rfl (fun K' hK => ?_) ?_
        · go_simp
          refine hK _ _ ?_
          clear hK K'
          refine wpAnyIn_ready (rs := [5]) (by kernel_rfl) (by simp) ?_
          refine AllReadyIn.cons rfl (fun K' hK => ?_) ?_
          · go_simp
            refine ⟨trivial, ?_⟩
            gi_at_call 75
            refine (callsIn_wide.2 (iEdgesOf_any cb co n f (prA x) (prB x) cs _ Hl.out hn30 ((Hrc.out.on HBW.out).on (Below.refl _ _).drew))).mono ?_
            rintro e' W4 ⟨q4, cap4, rfl, hf4, hb4⟩
            have HB4 := hid (show Below W.heap.size W W4 from ⟨hb4.os, hb4.tape, hb4.output, hb4.size, hb4.block⟩)
            rw [HTw.out] at hf4 ⊢
            obtain ⟨S, hS⟩ : ∃ S, colSet cs (2 - (x : Int)) n = S := ⟨_, rfl⟩
            obtain ⟨l4, hl4⟩ : ∃ l4, (colSet cs (2 - (x : Int)) n).length = l4 := ⟨_, rfl⟩
            rw [hl4] at hf4 ⊢
            have HL4 := hid hl4
            have HF4 := hid hf4.sees
            have h4s := HB4.out.size
            have HX4 := hid (HXW.out.on HB4.out)
            have hx4 := HX4.out.1
            have hy4 := HX4.out.2
            have hz4 := HX4.out.lt
            have HU4 := hid (boxC_on HU.out HB4.out)
            have hcu4 := HU4.out.cell
            have hzu4 := HU4.out.lt
            clear hf4 hb4 hl4
            refine hK _ _ ?_
            clear hK K'
            refine wpAnyIn_ready (rs := [6]) (by kernel_rfl) (by simp) ?_
            refine AllReadyIn.cons rfl (fun K' hK => ?_) ?_
            · go_simp
              refine ⟨trivial, ?_⟩
              gi_at_call 65
              refine (callsIn_wide.2 (iCycO_any N b off n c l4 cap4 q4 es (colSet cs (2 - (x : Int)) n) _ Hn.out (Hr.out.on (HBW.out.trans (HB4.out.mono hWs))) G.out HL4.out HF4.out (colSet_set _ _ _) HEV.out)).mono ?_
              rintro e' W5 ⟨q5, cap5, ba, rfl, hr5, ho5, hba, hb5⟩
              have HB5 := hid (show Below W.heap.size W W5 from HB4.out.trans (hb5.mono HB4.out.size))
              have HBA := hid (show W.heap.size ≤ ba by have := HB4.out.size; omega)
              obtain ⟨Ms, hMs⟩ : ∃ Ms, cycX es (colSet cs (2 - (x : Int)) n) l4 = Ms := ⟨_, rfl⟩
              have hpos := cycX_pos es (colSet cs (2 - (x : Int)) n) l4 (by have h := HPO.out; rw [HL4.out] at h; exact h)
              have h30 : (cycX es (colSet cs (2 - (x : Int)) n) l4).length ≤ 30 := by have h1 := cycX_len es (colSet cs (2 - (x : Int)) n) l4; have h2 : (colSet cs (2 - (x : Int)) n).length ≤ n := numsB_len _ _; rw [HL4.out] at h2; omega
              rw [hMs] at hr5 ho5 hpos h30 ⊢
              obtain ⟨M, hM⟩ : ∃ M, Ms.length = M := ⟨_, rfl⟩
              rw [hM] at hr5 hpos h30 ⊢
              obtain ⟨g5, rfl⟩ : ∃ g5, q5 = some ⟨g5, 0, none⟩ := by
                rcases hr5.2 with ⟨_, h0⟩ | ⟨g, c', cur, hv, _⟩
                · omega
                · injection hv with v1
                  exact ⟨g, v1⟩
              have HMs := hid hMs
              have HM := hid hM
              have HO5 := hid ho5
              have HR5 := hid hr5
              have hs5 := HB5.out.size
              have HRow5 := hid (rowC_same HRow.out (fun k' _ _ _ _ h2 => HB5.out.block k' (Array.getElem?_eq_some_iff.1 h2).1))
              have HU5 := hid (boxC_on HU.out HB5.out)
              have hcu5 := HU5.out.cell
              have hfu5 := HU5.out.frozen
              have hzu5 := HU5.out.lt
              clear hr5 ho5 hba hb5 hMs hM hpos
              refine hK _ _ ?_
              clear hK K'
              refine wpAnyIn_ready (rs := [7]) (by kernel_rfl) (by simp) ?_
              refine AllReadyIn.cons rfl (fun K' hK => ?_) ?_
              · refine stepIn_append_own rfl (.tmp 24) (.tmp 30) 42 rfl (w5.heap.size + 3) 25 s0 (.slice none 0 0) 1 24 Try.underlying42 Hs.out hg0 hg1 hg2 rfl (by decide) (.slice q K cap) K vals rfl HRow5.out ⟨g5, 0, none⟩ M cap5 (rowsV ba Ms) rfl (by rw [rowsV_len, HM.out, Nat.mul_one]) (fun j u hj => HR5.out.cells (g := g5) rfl j u hj) (rowsV_one ba Ms) (by unfold maxLen; omega) (by omega) (by omega) ?_
                intro v' w9 hown9 hgrow9
                obtain ⟨q9, cap9, rfl⟩ := row_formC hown9
                have hu9 := HU5.out.kept hgrow9 (HU5.out.not_row (by decide) HRow5.out)
                have hcu9 := hu9.cell
                have hfu9 := hu9.frozen
                have hzu9 := hu9.lt
                refine hK _ _ ?_
                clear hK K'
                refine wpAnyIn_ready (rs := [8]) (by kernel_rfl) (by simp) ?_
                refine AllReadyIn.cons rfl (fun K' hK => ?_) ?_
                · go_simp
                  refine hK _ _ ?_
                  clear hK K'
                  refine wpAnyIn_done (by kernel_rfl) ?_ _
                  gi_wp2
                  obtain ⟨f1, f2, f3, f4⟩ := cv_push (B := w5.heap.size) (A := w5.heap.size + 3) (M := M) HU.out HRow.out HK.out HV.out HR.out HB5.out (by omega) (by omega) HO5.out HBA.out hown9 HM.out hgrow9
                  exact ⟨f1 _, f2, by rw [cvP_push, HNn.out]; unfold cvG; rw [HL4.out, HMs.out]; exact f3, HBW5.out.trans f4⟩
                exact AllReadyIn.nil
              exact AllReadyIn.nil
            exact AllReadyIn.nil
          exact AllReadyIn.nil
        refine AllReadyIn.cons rfl (fun K' hK => ?_) ?_
        · go_simp
          refine ⟨trivial, ?_⟩
          gi_at_call 75
          refine (callsIn_wide.2 (iEdgesOf_any cb co n f (prA x) (prB x) cs _ Hl.out hn30 ((Hrc.out.on HBW.out).on (Below.refl _ _).drew))).mono ?_
          rintro e' W4 ⟨q4, cap4, rfl, hf4, hb4⟩
          have HB4 := hid (show Below W.heap.size W W4 from ⟨hb4.os, hb4.tape, hb4.output, hb4.size, hb4.block⟩)
          rw [HTw.out] at hf4 ⊢
          obtain ⟨S, hS⟩ : ∃ S, colSet cs (2 - (x : Int)) n = S := ⟨_, rfl⟩
          obtain ⟨l4, hl4⟩ : ∃ l4, (colSet cs (2 - (x : Int)) n).length = l4 := ⟨_, rfl⟩
          rw [hl4] at hf4 ⊢
          have HL4 := hid hl4
          have HF4 := hid hf4.sees
          have h4s := HB4.out.size
          have HX4 := hid (HXW.out.on HB4.out)
          have hx4 := HX4.out.1
          have hy4 := HX4.out.2
          have hz4 := HX4.out.lt
          have HU4 := hid (boxC_on HU.out HB4.out)
          have hcu4 := HU4.out.cell
          have hzu4 := HU4.out.lt
          clear hf4 hb4 hl4
          refine hK _ _ ?_
          clear hK K'
          refine wpAnyIn_ready (rs := [1]) (by kernel_rfl) (by simp) ?_
          refine AllReadyIn.cons rfl (fun K' hK => ?_) ?_
          · go_simp
            refine hK _ _ ?_
            clear hK K'
            refine wpAnyIn_ready (rs := [6]) (by kernel_rfl) (by simp) ?_
            refine AllReadyIn.cons rfl (fun K' hK => ?_) ?_
            · go_simp
              refine ⟨trivial, ?_⟩
              gi_at_call 65
              refine (callsIn_wide.2 (iCycO_any N b off n c l4 cap4 q4 es (colSet cs (2 - (x : Int)) n) _ Hn.out (Hr.out.on (HBW.out.trans (HB4.out.mono hWs))) G.out HL4.out HF4.out (colSet_set _ _ _) HEV.out)).mono ?_
              rintro e' W5 ⟨q5, cap5, ba, rfl, hr5, ho5, hba, hb5⟩
              have HB5 := hid (show Below W.heap.size W W5 from HB4.out.trans (hb5.mono HB4.out.size))
              have HBA := hid (show W.heap.size ≤ ba by have := HB4.out.size; omega)
              obtain ⟨Ms, hMs⟩ : ∃ Ms, cycX es (colSet cs (2 - (x : Int)) n) l4 = Ms := ⟨_, rfl⟩
              have hpos := cycX_pos es (colSet cs (2 - (x : Int)) n) l4 (by have h := HPO.out; rw [HL4.out] at h; exact h)
              have h30 : (cycX es (colSet cs (2 - (x : Int)) n) l4).length ≤ 30 := by have h1 := cycX_len es (colSet cs (2 - (x : Int)) n) l4; have h2 : (colSet cs (2 - (x : Int)) n).length ≤ n := numsB_len _ _; rw [HL4.out] at h2; omega
              rw [hMs] at hr5 ho5 hpos h30 ⊢
              obtain ⟨M, hM⟩ : ∃ M, Ms.length = M := ⟨_, rfl⟩
              rw [hM] at hr5 hpos h30 ⊢
              obtain ⟨g5, rfl⟩ : ∃ g5, q5 = some ⟨g5, 0, none⟩ := by
                rcases hr5.2 with ⟨_, h0⟩ | ⟨g, c', cur, hv, _⟩
                · omega
                · injection hv with v1
                  exact ⟨g, v1⟩
              have HMs := hid hMs
              have HM := hid hM
              have HO5 := hid ho5
              have HR5 := hid hr5
              have hs5 := HB5.out.size
              have HRow5 := hid (rowC_same HRow.out (fun k' _ _ _ _ h2 => HB5.out.block k' (Array.getElem?_eq_some_iff.1 h2).1))
              have HU5 := hid (boxC_on HU.out HB5.out)
              have hcu5 := HU5.out.cell
              have hfu5 := HU5.out.frozen
              have hzu5 := HU5.out.lt
              clear hr5 ho5 hba hb5 hMs hM hpos
              refine hK _ _ ?_
              clear hK K'
              refine wpAnyIn_ready (rs := [7]) (by kernel_rfl) (by simp) ?_
              refine AllReadyIn.cons rfl (fun K' hK => ?_) ?_
              · refine stepIn_append_own rfl (.tmp 24) (.tmp 30) 42 rfl (w5.heap.size + 3) 25 s0 (.slice none 0 0) 1 24 Try.underlying42 Hs.out hg0 hg1 hg2 rfl (by decide) (.slice q K cap) K vals rfl HRow5.out ⟨g5, 0, none⟩ M cap5 (rowsV ba Ms) rfl (by rw [rowsV_len, HM.out, Nat.mul_one]) (fun j u hj => HR5.out.cells (g := g5) rfl j u hj) (rowsV_one ba Ms) (by unfold maxLen; omega) (by omega) (by omega) ?_
                intro v' w9 hown9 hgrow9
                obtain ⟨q9, cap9, rfl⟩ := row_formC hown9
                have hu9 := HU5.out.kept hgrow9 (HU5.out.not_row (by decide) HRow5.out)
                have hcu9 := hu9.cell
                have hfu9 := hu9.frozen
                have hzu9 := hu9.lt
                refine hK _ _ ?_
                clear hK K'
                refine wpAnyIn_ready (rs := [8]) (by kernel_rfl) (by simp) ?_
                refine AllReadyIn.cons rfl (fun K' hK => ?_) ?_
                · go_simp
                  refine hK _ _ ?_
                  clear hK K'
                  refine wpAnyIn_done (by kernel_rfl) ?_ _
                  gi_wp2
                  obtain ⟨f1, f2, f3, f4⟩ := cv_push (B := w5.heap.size) (A := w5.heap.size + 3) (M := M) HU.out HRow.out HK.out HV.out HR.out HB5.out (by omega) (by omega) HO5.out HBA.out hown9 HM.out hgrow9
                  exact ⟨f1 _, f2, by rw [cvP_push, HNn.out]; unfold cvG; rw [HL4.out, HMs.out]; exact f3, HBW5.out.trans f4⟩
                exact AllReadyIn.nil
              exact AllReadyIn.nil
            exact AllReadyIn.nil
          exact AllReadyIn.nil
        exact AllReadyIn.nil
      refine AllReadyIn.cons rfl (fun K' hK => ?_) ?_
      · go_simp
        refine hK _ _ ?_
        clear hK K'
        refine wpAnyIn_ready (rs := [0, 5]) (by kernel_rfl) (by simp) ?_
        refine AllReadyIn.cons rfl (fun K' hK => ?_) ?_
        · go_simp
          refine hK _ _ ?_
          clear hK K'
          refine wpAnyIn_ready (rs := [5]) (by kernel_rfl) (by simp) ?_
          refine AllReadyIn.cons rfl (fun K' hK => ?_) ?_
          · go_simp
            refine ⟨trivial, ?_⟩
            gi_at_call 75
            refine (callsIn_wide.2 (iEdgesOf_any cb co n f (prA x) (prB x) cs _ Hl.out hn30 ((Hrc.out.on HBW.out).on (Below.refl _ _).drew))).mono ?_
            rintro e' W4 ⟨q4, cap4, rfl, hf4, hb4⟩
            have HB4 := hid (show Below W.heap.size W W4 from ⟨hb4.os, hb4.tape, hb4.output, hb4.size, hb4.block⟩)
            rw [HTw.out] at hf4 ⊢
            obtain ⟨S, hS⟩ : ∃ S, colSet cs (2 - (x : Int)) n = S := ⟨_, rfl⟩
            obtain ⟨l4, hl4⟩ : ∃ l4, (colSet cs (2 - (x : Int)) n).length = l4 := ⟨_, rfl⟩
            rw [hl4] at hf4 ⊢
            have HL4 := hid hl4
            have HF4 := hid hf4.sees
            have h4s := HB4.out.size
            have HX4 := hid (HXW.out.on HB4.out)
            have hx4 := HX4.out.1
            have hy4 := HX4.out.2
            have hz4 := HX4.out.lt
            have HU4 := hid (boxC_on HU.out HB4.out)
            have hcu4 := HU4.out.cell
            have hzu4 := HU4.out.lt
            clear hf4 hb4 hl4
            refine hK _ _ ?_
            clear hK K'
            refine wpAnyIn_ready (rs := [6]) (by kernel_rfl) (by simp) ?_
            refine AllReadyIn.cons rfl (fun K' hK => ?_) ?_
            · go_simp
              refine ⟨trivial, ?_⟩
              gi_at_call 65
              refine (callsIn_wide.2 (iCycO_any N b off n c l4 cap4 q4 es (colSet cs (2 - (x : Int)) n) _ Hn.out (Hr.out.on (HBW.out.trans (HB4.out.mono hWs))) G.out HL4.out HF4.out (colSet_set _ _ _) HEV.out)).mono ?_
              rintro e' W5 ⟨q5, cap5, ba, rfl, hr5, ho5, hba, hb5⟩
              have HB5 := hid (show Below W.heap.size W W5 from HB4.out.trans (hb5.mono HB4.out.size))
              have HBA := hid (show W.heap.size ≤ ba by have := HB4.out.size; omega)
              obtain ⟨Ms, hMs⟩ : ∃ Ms, cycX es (colSet cs (2 - (x : Int)) n) l4 = Ms := ⟨_, rfl⟩
              have hpos := cycX_pos es (colSet cs (2 - (x : Int)) n) l4 (by have h := HPO.out; rw [HL4.out] at h; exact h)
              have h30 : (cycX es (colSet cs (2 - (x : Int)) n) l4).length ≤ 30 := by have h1 := cycX_len es (colSet cs (2 - (x : Int)) n) l4; have h2 : (colSet cs (2 - (x : Int)) n).length ≤ n := numsB_len _ _; rw [HL4.out] at h2; omega
              rw [hMs] at hr5 ho5 hpos h30 ⊢
              obtain ⟨M, hM⟩ : ∃ M, Ms.length = M := ⟨_, rfl⟩
              rw [hM] at hr5 hpos h30 ⊢
              obtain ⟨g5, rfl⟩ : ∃ g5, q5 = some ⟨g5, 0, none⟩ := by
                rcases hr5.2 with ⟨_, h0⟩ | ⟨g, c', cur, hv, _⟩
                · omega
                · injection hv with v1
                  exact ⟨g, v1⟩
              have HMs := hid hMs
              have HM := hid hM
              have HO5 := hid ho5
              have HR5 := hid hr5
              have hs5 := HB5.out.size
              have HRow5 := hid (rowC_same HRow.out (fun k' _ _ _ _ h2 => HB5.out.block k' (Array.getElem?_eq_some_iff.1 h2).1))
              have HU5 := hid (boxC_on HU.out HB5.out)
              have hcu5 := HU5.out.cell
              have hfu5 := HU5.out.frozen
              have hzu5 := HU5.out.lt
              clear hr5 ho5 hba hb5 hMs hM hpos
              refine hK _ _ ?_
              clear hK K'
              refine wpAnyIn_ready (rs := [7]) (by kernel_rfl) (by simp) ?_
              refine AllReadyIn.cons rfl (fun K' hK => ?_) ?_
              · refine stepIn_append_own rfl (.tmp 24) (.tmp 30) 42 rfl (w5.heap.size + 3) 25 s0 (.slice none 0 0) 1 24 Try.underlying42 Hs.out hg0 hg1 hg2 rfl (by decide) (.slice q K cap) K vals rfl HRow5.out ⟨g5, 0, none⟩ M cap5 (rowsV ba Ms) rfl (by rw [rowsV_len, HM.out, Nat.mul_one]) (fun j u hj => HR5.out.cells (g := g5) rfl j u hj) (rowsV_one ba Ms) (by unfold maxLen; omega) (by omega) (by omega) ?_
                intro v' w9 hown9 hgrow9
                obtain ⟨q9, cap9, rfl⟩ := row_formC hown9
                have hu9 := HU5.out.kept hgrow9 (HU5.out.not_row (by decide) HRow5.out)
                have hcu9 := hu9.cell
                have hfu9 := hu9.frozen
                have hzu9 := hu9.lt
                refine hK _ _ ?_
                clear hK K'
                refine wpAnyIn_ready (rs := [8]) (by kernel_rfl) (by simp) ?_
                refine AllReadyIn.cons rfl (fun K' hK => ?_) ?_
                · go_simp
                  refine hK _ _ ?_
                  clear hK K'
                  refine wpAnyIn_done (by kernel_rfl) ?_ _
                  gi_wp2
                  obtain ⟨f1, f2, f3, f4⟩ := cv_push (B := w5.heap.size) (A := w5.heap.size + 3) (M := M) HU.out HRow.out HK.out HV.out HR.out HB5.out (by omega) (by omega) HO5.out HBA.out hown9 HM.out hgrow9
                  exact ⟨f1 _, f2, by rw [cvP_push, HNn.out]; unfold cvG; rw [HL4.out, HMs.out]; exact f3, HBW5.out.trans f4⟩
                exact AllReadyIn.nil
              exact AllReadyIn.nil
            exact AllReadyIn.nil
          exact AllReadyIn.nil
        refine AllReadyIn.cons rfl (fun K' hK => ?_) ?_
        · go_simp
          refine ⟨trivial, ?_⟩
          gi_at_call 75
          refine (callsIn_wide.2 (iEdgesOf_any cb co n f (prA x) (prB x) cs _ Hl.out hn30 ((Hrc.out.on HBW.out).on (Below.refl _ _).drew))).mono ?_
          rintro e' W4 ⟨q4, cap4, rfl, hf4, hb4⟩
          have HB4 := hid (show Below W.heap.size W W4 from ⟨hb4.os, hb4.tape, hb4.output, hb4.size, hb4.block⟩)
          rw [HTw.out] at hf4 ⊢
          obtain ⟨S, hS⟩ : ∃ S, colSet cs (2 - (x : Int)) n = S := ⟨_, rfl⟩
          obtain ⟨l4, hl4⟩ : ∃ l4, (colSet cs (2 - (x : Int)) n).length = l4 := ⟨_, rfl⟩
          rw [hl4] at hf4 ⊢
          have HL4 := hid hl4
          have HF4 := hid hf4.sees
          have h4s := HB4.out.size
          have HX4 := hid (HXW.out.on HB4.out)
          have hx4 := HX4.out.1
          have hy4 := HX4.out.2
          have hz4 := HX4.out.lt
          have HU4 := hid (boxC_on HU.out HB4.out)
          have hcu4 := HU4.out.cell
          have hzu4 := HU4.out.lt
          clear hf4 hb4 hl4
          refine hK _ _ ?_
          clear hK K'
          refine wpAnyIn_ready (rs := [0, 6]) (by kernel_rfl) (by simp) ?_
          refine AllReadyIn.cons rfl (fun K' hK => ?_) ?_
          · go_simp
            refine hK _ _ ?_
            clear hK K'
            refine wpAnyIn_ready (rs := [6]) (by kernel_rfl) (by simp) ?_
            refine AllReadyIn.cons rfl (fun K' hK => ?_) ?_
            · go_simp
              refine ⟨trivial, ?_⟩
              gi_at_call 65
              refine (callsIn_wide.2 (iCycO_any N b off n c l4 cap4 q4 es (colSet cs (2 - (x : Int)) n) _ Hn.out (Hr.out.on (HBW.out.trans (HB4.out.mono hWs))) G.out HL4.out HF4.out (colSet_set _ _ _) HEV.out)).mono ?_
              rintro e' W5 ⟨q5, cap5, ba, rfl, hr5, ho5, hba, hb5⟩
              have HB5 := hid (show Below W.heap.size W W5 from HB4.out.trans (hb5.mono HB4.out.size))
              have HBA := hid (show W.heap.size ≤ ba by have := HB4.out.size; omega)
              obtain ⟨Ms, hMs⟩ : ∃ Ms, cycX es (colSet cs (2 - (x : Int)) n) l4 = Ms := ⟨_, rfl⟩
              have hpos := cycX_pos es (colSet cs (2 - (x : Int)) n) l4 (by have h := HPO.out; rw [HL4.out] at h; exact h)
              have h30 : (cycX es (colSet cs (2 - (x : Int)) n) l4).length ≤ 30 := by have h1 := cycX_len es (colSet cs (2 - (x : Int)) n) l4; have h2 : (colSet cs (2 - (x : Int)) n).length ≤ n := numsB_len _ _; rw [HL4.out] at h2; omega
              rw [hMs] at hr5 ho5 hpos h30 ⊢
              obtain ⟨M, hM⟩ : ∃ M, Ms.length = M := ⟨_, rfl⟩
              rw [hM] at hr5 hpos h30 ⊢
              obtain ⟨g5, rfl⟩ : ∃ g5, q5 = some ⟨g5, 0, none⟩ := by
                rcases hr5.2 with ⟨_, h0⟩ | ⟨g, c', cur, hv, _⟩
                · omega
                · injection hv with v1
                  exact ⟨g, v1⟩
              have HMs := hid hMs
              have HM := hid hM
              have HO5 := hid ho5
              have HR5 := hid hr5
              have hs5 := HB5.out.size
              have HRow5 := hid (rowC_same HRow.out (fun k' _ _ _ _ h2 => HB5.out.block k' (Array.getElem?_eq_some_iff.1 h2).1))
              have HU5 := hid (boxC_on HU.out HB5.out)
              have hcu5 := HU5.out.cell
              have hfu5 := HU5.out.frozen
              have hzu5 := HU5.out.lt
              clear hr5 ho5 hba hb5 hMs hM hpos
              refine hK _ _ ?_
              clear hK K'
              refine wpAnyIn_ready (rs := [7]) (by kernel_rfl) (by simp) ?_
              refine AllReadyIn.cons rfl (fun K' hK => ?_) ?_
              · refine stepIn_append_own rfl (.tmp 24) (.tmp 30) 42 rfl (w5.heap.size + 3) 25 s0 (.slice none 0 0) 1 24 Try.underlying42 Hs.out hg0 hg1 hg2 rfl (by decide) (.slice q K cap) K vals rfl HRow5.out ⟨g5, 0, none⟩ M cap5 (rowsV ba Ms) rfl (by rw [rowsV_len, HM.out, Nat.mul_one]) (fun j u hj => HR5.out.cells (g := g5) rfl j u hj) (rowsV_one ba Ms) (by unfold maxLen; omega) (by omega) (by omega) ?_
                intro v' w9 hown9 hgrow9
                obtain ⟨q9, cap9, rfl⟩ := row_formC hown9
                have hu9 := HU5.out.kept hgrow9 (HU5.out.not_row (by decide) HRow5.out)
                have hcu9 := hu9.cell
                have hfu9 := hu9.frozen
                have hzu9 := hu9.lt
                refine hK _ _ ?_
                clear hK K'
                refine wpAnyIn_ready (rs := [8]) (by kernel_rfl) (by simp) ?_
                refine AllReadyIn.cons rfl (fun K' hK => ?_) ?_
                · go_simp
                  refine hK _ _ ?_
                  clear hK K'
                  refine wpAnyIn_done (by kernel_rfl) ?_ _
                  gi_wp2
                  obtain ⟨f1, f2, f3, f4⟩ := cv_push (B := w5.heap.size) (A := w5.heap.size + 3) (M := M) HU.out HRow.out HK.out HV.out HR.out HB5.out (by omega) (by omega) HO5.out HBA.out hown9 HM.out hgrow9
                  exact ⟨f1 _, f2, by rw [cvP_push, HNn.out]; unfold cvG; rw [HL4.out, HMs.out]; exact f3, HBW5.out.trans f4⟩
                exact AllReadyIn.nil
              exact AllReadyIn.nil
            exact AllReadyIn.nil
          refine AllReadyIn.cons rfl (fun K' hK => ?_) ?_
          · go_simp
            refine ⟨trivial, ?_⟩
            gi_at_call 65
            refine (callsIn_wide.2 (iCycO_any N b off n c l4 cap4 q4 es (colSet cs (2 - (x : Int)) n) _ Hn.out (Hr.out.on (HBW.out.trans (HB4.out.mono hWs))) G.out HL4.out HF4.out (colSet_set _ _ _) HEV.out)).mono ?_
            rintro e' W5 ⟨q5, cap5, ba, rfl, hr5, ho5, hba, hb5⟩
            have HB5 := hid (show Below W.heap.size W W5 from HB4.out.trans (hb5.mono HB4.out.size))
            have HBA := hid (show W.heap.size ≤ ba by have := HB4.out.size; omega)
            obtain ⟨Ms, hMs⟩ : ∃ Ms, cycX es (colSet cs (2 - (x : Int)) n) l4 = Ms := ⟨_, rfl⟩
            have hpos := cycX_pos es (colSet cs (2 - (x : Int)) n) l4 (by have h := HPO.out; rw [HL4.out] at h; exact h)
            have h30 : (cycX es (colSet cs (2 - (x : Int)) n) l4).length ≤ 30 := by have h1 := cycX_len es (colSet cs (2 - (x : Int)) n) l4; have h2 : (colSet cs (2 - (x : Int)) n).length ≤ n := numsB_len _ _; rw [HL4.out] at h2; omega
            rw [hMs] at hr5 ho5 hpos h30 ⊢
            obtain ⟨M, hM⟩ : ∃ M, Ms.length = M := ⟨_, rfl⟩
            rw [hM] at hr5 hpos h30 ⊢
            obtain ⟨g5, rfl⟩ : ∃ g5, q5 = some ⟨g5, 0, none⟩ := by
              rcases hr5.2 with ⟨_, h0⟩ | ⟨g, c', cur, hv, _⟩
              · omega
              · injection hv with v1
                exact ⟨g, v1⟩
            have HMs := hid hMs
            have HM := hid hM
            have HO5 := hid ho5
            have HR5 := hid hr5
            have hs5 := HB5.out.size
            have HRow5 := hid (rowC_same HRow.out (fun k' _ _ _ _ h2 => HB5.out.block k' (Array.getElem?_eq_some_iff.1 h2).1))
            have HU5 := hid (boxC_on HU.out HB5.out)
            have hcu5 := HU5.out.cell
            have hfu5 := HU5.out.frozen
            have hzu5 := HU5.out.lt
            clear hr5 ho5 hba hb5 hMs hM hpos
            refine hK _ _ ?_
            clear hK K'
            refine wpAnyIn_ready (rs := [0]) (by kernel_rfl) (by simp) ?_
            refine AllReadyIn.cons rfl (fun K' hK => ?_) ?_
            · go_simp
              refine hK _ _ ?_
              clear hK K'
              refine wpAnyIn_ready (rs := [7]) (by kernel_rfl) (by simp) ?_
              refine AllReadyIn.cons rfl (fun K' hK => ?_) ?_
              · refine stepIn_append_own rfl (.tmp 24) (.tmp 30) 42 rfl (w5.heap.size + 3) 25 s0 (.slice none 0 0) 1 24 Try.underlying42 Hs.out hg0 hg1 hg2 rfl (by decide) (.slice q K cap) K vals rfl HRow5.out ⟨g5, 0, none⟩ M cap5 (rowsV ba Ms) rfl (by rw [rowsV_len, HM.out, Nat.mul_one]) (fun j u hj => HR5.out.cells (g := g5) rfl j u hj) (rowsV_one ba Ms) (by unfold maxLen; omega) (by omega) (by omega) ?_
                intro v' w9 hown9 hgrow9
                obtain ⟨q9, cap9, rfl⟩ := row_formC hown9
                have hu9 := HU5.out.kept hgrow9 (HU5.out.not_row (by decide) HRow5.out)
                have hcu9 := hu9.cell
                have hfu9 := hu9.frozen
                have hzu9 := hu9.lt
                refine hK _ _ ?_
                clear hK K'
                refine wpAnyIn_ready (rs := [8]) (by kernel_rfl) (by simp) ?_
                refine AllReadyIn.cons rfl (fun K' hK => ?_) ?_
                · go_simp
                  refine hK _ _ ?_
                  clear hK K'
                  refine wpAnyIn_done (by kernel_rfl) ?_ _
                  gi_wp2
                  obtain ⟨f1, f2, f3, f4⟩ := cv_push (B := w5.heap.size) (A := w5.heap.size + 3) (M := M) HU.out HRow.out HK.out HV.out HR.out HB5.out (by omega) (by omega) HO5.out HBA.out hown9 HM.out hgrow9
                  exact ⟨f1 _, f2, by rw [cvP_push, HNn.out]; unfold cvG; rw [HL4.out, HMs.out]; exact f3, HBW5.out.trans f4⟩
                exact AllReadyIn.nil
              exact AllReadyIn.nil
            exact AllReadyIn.nil
          exact AllReadyIn.nil
        exact AllReadyIn.nil
      refine AllReadyIn.cons rfl (fun K' hK => ?_) ?_
      · go_simp
        refine ⟨trivial, ?_⟩
        gi_at_call 75
        refine (callsIn_wide.2 (iEdgesOf_any cb co n f (prA x) (prB x) cs _ Hl.out hn30 ((Hrc.out.on HBW.out).on (Below.refl _ _).drew))).mono ?_
        rintro e' W4 ⟨q4, cap4, rfl, hf4, hb4⟩
        have HB4 := hid (show Below W.heap.size W W4 from ⟨hb4.os, hb4.tape, hb4.output, hb4.size, hb4.block⟩)
        rw [HTw.out] at hf4 ⊢
        obtain ⟨S, hS⟩ : ∃ S, colSet cs (2 - (x : Int)) n = S := ⟨_, rfl⟩
        obtain ⟨l4, hl4⟩ : ∃ l4, (colSet cs (2 - (x : Int)) n).length = l4 := ⟨_, rfl⟩
        rw [hl4] at hf4 ⊢
        have HL4 := hid hl4
        have HF4 := hid hf4.sees
        have h4s := HB4.out.size
        have HX4 := hid (HXW.out.on HB4.out)
        have hx4 := HX4.out.1
        have hy4 := HX4.out.2
        have hz4 := HX4.out.lt
        have HU4 := hid (boxC_on HU.out HB4.out)
        have hcu4 := HU4.out.cell
        have hzu4 := HU4.out.lt
        clear hf4 hb4 hl4
        refine hK _ _ ?_
        clear hK K'
        refine wpAnyIn_ready (rs := [0, 1]) (by kernel_rfl) (by simp) ?_
        refine AllReadyIn.cons rfl (fun K' hK => ?_) ?_
        · go_simp
          refine hK _ _ ?_
          clear hK K'
          refine wpAnyIn_ready (rs := [1]) (by kernel_rfl) (by simp) ?_
          refine AllReadyIn.cons rfl (fun K' hK => ?_) ?_
          · go_simp
            refine hK _ _ ?_
            clear hK K'
            refine wpAnyIn_ready (rs := [6]) (by kernel_rfl) (by simp) ?_
            refine AllReadyIn.cons rfl (fun K' hK => ?_) ?_
            · go_simp
              refine ⟨trivial, ?_⟩
              gi_at_call 65
              refine (callsIn_wide.2 (iCycO_any N b off n c l4 cap4 q4 es (colSet cs (2 - (x : Int)) n) _ Hn.out (Hr.out.on (HBW.out.trans (HB4.out.mono hWs))) G.out HL4.out HF4.out (colSet_set _ _ _) HEV.out)).mono ?_
              rintro e' W5 ⟨q5, cap5, ba, rfl, hr5, ho5, hba, hb5⟩
              have HB5 := hid (show Below W.heap.size W W5 from HB4.out.trans (hb5.mono HB4.out.size))
              have HBA := hid (show W.heap.size ≤ ba by have := HB4.out.size; omega)
              obtain ⟨Ms, hMs⟩ : ∃ Ms, cycX es (colSet cs (2 - (x : Int)) n) l4 = Ms := ⟨_, rfl⟩
              have hpos := cycX_pos es (colSet cs (2 - (x : Int)) n) l4 (by have h := HPO.out; rw [HL4.out] at h; exact h)
              have h30 : (cycX es (colSet cs (2 - (x : Int)) n) l4).length ≤ 30 := by have h1 := cycX_len es (colSet cs (2 - (x : Int)) n) l4; have h2 : (colSet cs (2 - (x : Int)) n).length ≤ n := numsB_len _ _; rw [HL4.out] at h2; omega
              rw [hMs] at hr5 ho5 hpos h30 ⊢
              obtain ⟨M, hM⟩ : ∃ M, Ms.length = M := ⟨_, rfl⟩
              rw [hM] at hr5 hpos h30 ⊢
              obtain ⟨g5, rfl⟩ : ∃ g5, q5 = some ⟨g5, 0, none⟩ := by
                rcases hr5.2 with ⟨_, h0⟩ | ⟨g, c', cur, hv, _⟩
                · omega
                · injection hv with v1
                  exact ⟨g, v1⟩
              have HMs := hid hMs
              have HM := hid hM
              have HO5 := hid ho5
              have HR5 := hid hr5
              have hs5 := HB5.out.size
              have HRow5 := hid (rowC_same HRow.out (fun k' _ _ _ _ h2 => HB5.out.block k' (Array.getElem?_eq_some_iff.1 h2).1))
              have HU5 := hid (boxC_on HU.out HB5.out)
              have hcu5 := HU5.out.cell
              have hfu5 := HU5.out.frozen
              have hzu5 := HU5.out.lt
              clear hr5 ho5 hba hb5 hMs hM hpos
              refine hK _ _ ?_
              clear hK K'
              refine wpAnyIn_ready (rs := [7]) (by kernel_rfl) (by simp) ?_
              refine AllReadyIn.cons rfl (fun K' hK => ?_) ?_
              · refine stepIn_append_own rfl (.tmp 24) (.tmp 30) 42 rfl (w5.heap.size + 3) 25 s0 (.slice none 0 0) 1 24 Try.underlying42 Hs.out hg0 hg1 hg2 rfl (by decide) (.slice q K cap) K vals rfl HRow5.out ⟨g5, 0, none⟩ M cap5 (rowsV ba Ms) rfl (by rw [rowsV_len, HM.out, Nat.mul_one]) (fun j u hj => HR5.out.cells (g := g5) rfl j u hj) (rowsV_one ba Ms) (by unfold maxLen; omega) (by omega) (by omega) ?_
                intro v' w9 hown9 hgrow9
                obtain ⟨q9, cap9, rfl⟩ := row_formC hown9
                have hu9 := HU5.out.kept hgrow9 (HU5.out.not_row (by decide) HRow5.out)
                have hcu9 := hu9.cell
                have hfu9 := hu9.frozen
                have hzu9 := hu9.lt
                refine hK _ _ ?_
                clear hK K'
                refine wpAnyIn_ready (rs := [8]) (by kernel_rfl) (by simp) ?_
                refine AllReadyIn.cons rfl (fun K' hK => ?_) ?_
                · go_simp
                  refine hK _ _ ?_
                  clear hK K'
                  refine wpAnyIn_done (by kernel_rfl) ?_ _
                  gi_wp2
                  obtain ⟨f1, f2, f3, f4⟩ := cv_push (B := w5.heap.size) (A := w5.heap.size + 3) (M := M) HU.out HRow.out HK.out HV.out HR.out HB5.out (by omega) (by omega) HO5.out HBA.out hown9 HM.out hgrow9
                  exact ⟨f1 _, f2, by rw [cvP_push, HNn.out]; unfold cvG; rw [HL4.out, HMs.out]; exact f3, HBW5.out.trans f4⟩
                exact AllReadyIn.nil
              exact AllReadyIn.nil
            exact AllReadyIn.nil
          exact AllReadyIn.nil
        refine AllReadyIn.cons rfl (fun K' hK => ?_) ?_
        · go_simp
          refine hK _ _ ?_
          clear hK K'
          refine wpAnyIn_ready (rs := [0, 6]) (by kernel_rfl) (by simp) ?_
          refine AllReadyIn.cons rfl (fun K' hK => ?_) ?_
          · go_simp
            refine hK _ _ ?_
            clear hK K'
            refine wpAnyIn_ready (rs := [6]) (by kernel_rfl) (by simp) ?_
            refine AllReadyIn.cons rfl (fun K' hK => ?_) ?_
            · go_simp
              refine ⟨trivial, ?_⟩
              gi_at_call 65
              refine (callsIn_wide.2 (iCycO_any N b off n c l4 cap4 q4 es (colSet cs (2 - (x : Int)) n) _ Hn.out (Hr.out.on (HBW.out.trans (HB4.out.mono hWs))) G.out HL4.out HF4.out (colSet_set _ _ _) HEV.out)).mono ?_
              rintro e' W5 ⟨q5, cap5, ba, rfl, hr5, ho5, hba, hb5⟩
              have HB5 := hid (show Below W.heap.size W W5 from HB4.out.trans (hb5.mono HB4.out.size))
              have HBA := hid (show W.heap.size ≤ ba by have := HB4.out.size; omega)
              obtain ⟨Ms, hMs⟩ : ∃ Ms, cycX es (colSet cs (2 - (x : Int)) n) l4 = Ms := ⟨_, rfl⟩
              have hpos := cycX_pos es (colSet cs (2 - (x : Int)) n) l4 (by have h := HPO.out; rw [HL4.out] at h; exact h)
              have h30 : (cycX es (colSet cs (2 - (x : Int)) n) l4).length ≤ 30 := by have h1 := cycX_len es (colSet cs (2 - (x : Int)) n) l4; have h2 : (colSet cs (2 - (x : Int)) n).length ≤ n := numsB_len _ _; rw [HL4.out] at h2; omega
              rw [hMs] at hr5 ho5 hpos h30 ⊢
              obtain ⟨M, hM⟩ : ∃ M, Ms.length = M := ⟨_, rfl⟩
              rw [hM] at hr5 hpos h30 ⊢
              obtain ⟨g5, rfl⟩ : ∃ g5, q5 = some ⟨g5, 0, none⟩ := by
                rcases hr5.2 with ⟨_, h0⟩ | ⟨g, c', cur, hv, _⟩
                · omega
                · injection hv with v1
                  exact ⟨g, v1⟩
              have HMs := hid hMs
              have HM := hid hM
              have HO5 := hid ho5
              have HR5 := hid hr5
              have hs5 := HB5.out.size
              have HRow5 := hid (rowC_same HRow.out (fun k' _ _ _ _ h2 => HB5.out.block k' (Array.getElem?_eq_some_iff.1 h2).1))
              have HU5 := hid (boxC_on HU.out HB5.out)
              have hcu5 := HU5.out.cell
              have hfu5 := HU5.out.frozen
              have hzu5 := HU5.out.lt
              clear hr5 ho5 hba hb5 hMs hM hpos
              refine hK _ _ ?_
              clear hK K'
              refine wpAnyIn_ready (rs := [7]) (by kernel_rfl) (by simp) ?_
              refine AllReadyIn.cons rfl (fun K' hK => ?_) ?_
              · refine stepIn_append_own rfl (.tmp 24) (.tmp 30) 42 rfl (w5.heap.size + 3) 25 s0 (.slice none 0 0) 1 24 Try.underlying42 Hs.out hg0 hg1 hg2 rfl (by decide) (.slice q K cap) K vals rfl HRow5.out ⟨g5, 0, none⟩ M cap5 (rowsV ba Ms) rfl (by rw [rowsV_len, HM.out, Nat.mul_one]) (fun j u hj => HR5.out.cells (g := g5) rfl j u hj) (rowsV_one ba Ms) (by unfold maxLen; omega) (by omega) (by omega) ?_
                intro v' w9 hown9 hgrow9
                obtain ⟨q9, cap9, rfl⟩ := row_formC hown9
                have hu9 := HU5.out.kept hgrow9 (HU5.out.not_row (by decide) HRow5.out)
                have hcu9 := hu9.cell
                have hfu9 := hu9.frozen
                have hzu9 := hu9.lt
                refine hK _ _ ?_
                clear hK K'
                refine wpAnyIn_ready (rs := [8]) (by kernel_rfl) (by simp) ?_
                refine AllReadyIn.cons rfl (fun K' hK => ?_) ?_
                · go_simp
                  refine hK _ _ ?_
                  clear hK K'
                  refine wpAnyIn_done (by kernel_rfl) ?_ _
                  gi_wp2
                  obtain ⟨f1, f2, f3, f4⟩ := cv_push (B := w5.heap.size) (A := w5.heap.size + 3) (M := M) HU.out HRow.out HK.out HV.out HR.out HB5.out (by omega) (by omega) HO5.out HBA.out hown9 HM.out hgrow9
                  exact ⟨f1 _, f2, by rw [cvP_push, HNn.out]; unfold cvG; rw [HL4.out, HMs.out]; exact f3, HBW5.out.trans f4⟩
                exact AllReadyIn.nil
              exact AllReadyIn.nil
            exact AllReadyIn.nil
          refine AllReadyIn.cons rfl (fun K' hK => ?_) ?_
          · go_simp
            refine ⟨trivial, ?_⟩
            gi_at_call 65
            refine (callsIn_wide.2 (iCycO_any N b off n c l4 cap4 q4 es (colSet cs (2 - (x : Int)) n) _ Hn.out (Hr.out.on (HBW.out.trans (HB4.out.mono hWs))) G.out HL4.out HF4.out (colSet_set _ _ _) HEV.out)).mono ?_
            rintro e' W5 ⟨q5, cap5, ba, rfl, hr5, ho5, hba, hb5⟩
            have HB5 := hid (show Below W.heap.size W W5 from HB4.out.trans (hb5.mono HB4.out.size))
            have HBA := hid (show W.heap.size ≤ ba by have := HB4.out.size; omega)
            obtain ⟨Ms, hMs⟩ : ∃ Ms, cycX es (colSet cs (2 - (x : Int)) n) l4 = Ms := ⟨_, rfl⟩
            have hpos := cycX_pos es (colSet cs (2 - (x : Int)) n) l4 (by have h := HPO.out; rw [HL4.out] at h; exact h)
            have h30 : (cycX es (colSet cs (2 - (x : Int)) n) l4).length ≤ 30 := by have h1 := cycX_len es (colSet cs (2 - (x : Int)) n) l4; have h2 : (colSet cs (2 - (x : Int)) n).length ≤ n := numsB_len _ _; rw [HL4.out] at h2; omega
            rw [hMs] at hr5 ho5 hpos h30 ⊢
            obtain ⟨M, hM⟩ : ∃ M, Ms.length = M := ⟨_, rfl⟩
            rw [hM] at hr5 hpos h30 ⊢
            obtain ⟨g5, rfl⟩ : ∃ g5, q5 = some ⟨g5, 0, none⟩ := by
              rcases hr5.2 with ⟨_, h0⟩ | ⟨g, c', cur, hv, _⟩
              · omega
              · injection hv with v1
                exact ⟨g, v1⟩
            have HMs := hid hMs
            have HM := hid hM
            have HO5 := hid ho5
            have HR5 := hid hr5
            have hs5 := HB5.out.size
            have HRow5 := hid (rowC_same HRow.out (fun k' _ _ _ _ h2 => HB5.out.block k' (Array.getElem?_eq_some_iff.1 h2).1))
            have HU5 := hid (boxC_on HU.out HB5.out)
            have hcu5 := HU5.out.cell
            have hfu5 := HU5.out.frozen
            have hzu5 := HU5.out.lt
            clear hr5 ho5 hba hb5 hMs hM hpos
            refine hK _ _ ?_
            clear hK K'
            refine wpAnyIn_ready (rs := [0]) (by kernel_rfl) (by simp) ?_
            refine AllReadyIn.cons rfl (fun K' hK => ?_) ?_
            · go_simp
              refine hK _ _ ?_
              clear hK K'
              refine wpAnyIn_ready (rs := [7]) (by kernel_rfl) (by simp) ?_
              refine AllReadyIn.cons rfl (fun K' hK => ?_) ?_
              · refine stepIn_append_own rfl (.tmp 24) (.tmp 30) 42 rfl (w5.heap.size + 3) 25 s0 (.slice none 0 0) 1 24 Try.underlying42 Hs.out hg0 hg1 hg2 rfl (by decide) (.slice q K cap) K vals rfl HRow5.out ⟨g5, 0, none⟩ M cap5 (rowsV ba Ms) rfl (by rw [rowsV_len, HM.out, Nat.mul_one]) (fun j u hj => HR5.out.cells (g := g5) rfl j u hj) (rowsV_one ba Ms) (by unfold maxLen; omega) (by omega) (by omega) ?_
                intro v' w9 hown9 hgrow9
                obtain ⟨q9, cap9, rfl⟩ := row_formC hown9
                have hu9 := HU5.out.kept hgrow9 (HU5.out.not_row (by decide) HRow5.out)
                have hcu9 := hu9.cell
                have hfu9 := hu9.frozen
                have hzu9 := hu9.lt
                refine hK _ _ ?_
                clear hK K'
                refine wpAnyIn_ready (rs := [8]) (by kernel_rfl) (by simp) ?_
                refine AllReadyIn.cons rfl (fun K' hK => ?_) ?_
                · go_simp
                  refine hK _ _ ?_
                  clear hK K'
                  refine wpAnyIn_done (by kernel_rfl) ?_ _
                  gi_wp2
                  obtain ⟨f1, f2, f3, f4⟩ := cv_push (B := w5.heap.size) (A := w5.heap.size + 3) (M := M) HU.out HRow.out HK.out HV.out HR.out HB5.out (by omega) (by omega) HO5.out HBA.out hown9 HM.out hgrow9
                  exact ⟨f1 _, f2, by rw [cvP_push, HNn.out]; unfold cvG; rw [HL4.out, HMs.out]; exact f3, HBW5.out.trans f4⟩
                exact AllReadyIn.nil
              exact AllReadyIn.nil
            exact AllReadyIn.nil
          exact AllReadyIn.nil
        exact AllReadyIn.nil
      exact AllReadyIn.nil
    exact AllReadyIn.nil
  case done =>
    rintro D ys W hD hS ⟨⟨u, pl, vals, hu, hrow, hV, hR⟩, hB⟩ hK
    subst hS
    rw [cvP_three, HUs.out] at hrow hV hR
    rw [HKs.out] at hrow
    have hk := HKs.out
    obtain ⟨q, cap, rfl⟩ := row_formC hrow
    have hcu := hu.cell
    have hzu := hu.lt
    have hsame : ∀ k' cur t fr, w5.heap.size + 3 ≤ k' → W.heap[k']? = some (Obj.cells cur t fr) → (W.putObj D (.deferred none)).heap[k']? = W.heap[k']? := fun k' cur t fr h1 h2 => World.putObj_heap_other (fun e => by
      subst e
      rw [h2] at hK
      cases hK)
    have hfr : FreshP w.heap.size (W.putObj D (.deferred none)) q k Us := (hR.same hsame).fresh (rowC_same hrow hsame) hV hk (by omega)
    have hBw : Below w.heap.size w W := bfrom HB5.out hB
    clear hrow hR hu hB hsame hV
    gi_wp2
    refine ⟨by simp, .inl ⟨_, _, rfl, run_takeDeferred hK, ?_⟩⟩
    exact ⟨_, results_tmp2 rfl _ _ _, q, cap, rfl, hfr, hBw.grown (grownBy_putObj' W D _) hBw.size (fun k' e => by have e1 : D = k' := Option.some.inj e; simp at hD; omega)⟩
  case stop =>
    rintro D c' pre W _ _ h _
    exact h.elim

end Go.Proofs.Ytogdcoioflcdiaa

namespace Go.Proofs.Ytogdcoioflcdiaa
open Go.RowKit Go.Shelf

set_option maxRecDepth 100000 in
set_option maxHeartbeats 4000000 in
theorem sCov_no (s : Int) (p pc : Option Addr) (n c m f : Nat) (es : List (Int × Int)) (w : World) (hm : n ≤ 1048576) (hn : es.length = n) (hr : SeesE w p es) (g : ¬ IsG s es) :
    Calls Try.prog 34 #[.agg #[.int .i64 s, .slice p n c], .slice pc m f] w fun e' w' => e' = .returned (.tuple #[.slice none 0 0, .int .i64 1]) ∧ Below w.heap.size w w' := by
  have Hn := hid hn
  have Hr := hid hr
  have G := hid g
  clear hn hr g
  go_enter Try.func34, Try.ntmps34
  go_wp2_with fail
  refine (sIs_any _ _ _ _ es _ (by omega) Hn.out (Hr.out.on (on_alloc _ _))).mono ?_
  rw [decide_eq_false G.out]
  rintro e w2 ⟨rfl, hb2⟩
  have HB2 := hid (bfrom (w := w) (on_alloc _ _) hb2)
  clear hb2
  go_wp2
  go_ret2
  exact ⟨rfl, HB2.out⟩

set_option maxRecDepth 100000 in
set_option maxHeartbeats 4000000 in
theorem sCov_len (s : Int) (p pc : Option Addr) (n c m f : Nat) (es : List (Int × Int)) (w : World) (hm : n ≤ 1048576) (hn : es.length = n) (hr : SeesE w p es) (g : IsG s es) (hl : ¬ m = n) :
    Calls Try.prog 34 #[.agg #[.int .i64 s, .slice p n c], .slice pc m f] w fun e' w' => e' = .returned (.tuple #[.slice none 0 0, .int .i64 2]) ∧ Below w.heap.size w w' := by
  have Hn := hid hn
  have Hr := hid hr
  have G := hid g
  have hne : ¬ ((m : Int) = (n : Int)) := by omega
  clear hn hr g
  go_enter Try.func34, Try.ntmps34
  go_wp2_with fail
  refine (sIs_any _ _ _ _ es _ (by omega) Hn.out (Hr.out.on (on_alloc _ _))).mono ?_
  rw [decide_eq_true G.out]
  rintro e w2 ⟨rfl, hb2⟩
  have HB2 := hid (bfrom (w := w) (on_alloc _ _) hb2)
  have hX2 := (Box.new w s p n c 31).on hb2
  have hx2 := hX2.1
  have hy2 := hX2.2
  have hz2 := hX2.lt
  clear hX2 hb2
  go_wp2
  go_ret2
  exact ⟨rfl, HB2.out⟩

set_option maxRecDepth 100000 in
set_option maxHeartbeats 4000000 in
theorem iCv_no (s : Int) (p pc : Option Addr) (n c m f : Nat) (es : List (Int × Int)) (w : World) (hm : n ≤ 1048576) (hn : es.length = n) (hr : SeesE w p es) (g : ¬ IsG s es) :
    Calls Try.prog 35 #[.agg #[.int .i64 s, .slice p n c], .slice pc m f] w fun e' w' => e' = .returned (.tuple #[.slice none 0 0, .int .i64 1]) ∧ Below w.heap.size w w' := by
  have Hn := hid hn
  have Hr := hid hr
  have G := hid g
  clear hn hr g
  go_enter Try.func35, Try.ntmps35
  go_wp2_with fail
  refine (iIsGraph_any _ _ _ _ es _ hm Hn.out ((Hr.out.on (on_alloc _ _)).on (on_alloc _ _))).mono ?_
  rw [decide_eq_false G.out]
  rintro e w2 ⟨rfl, hb2⟩
  have HB2 := hid (bfrom (w := w) (bfrom (on_alloc _ _) (on_alloc _ _)) hb2)
  clear hb2
  go_wp2
  go_ret2
  exact ⟨rfl, HB2.out⟩

set_option maxRecDepth 100000 in
set_option maxHeartbeats 4000000 in
theorem iCv_bad (s : Int) (b off n c m f : Nat) (pc : Option Addr) (es : List (Int × Int)) (cs : List Int) (w : World) (hn : es.length = n) (hr : ReadsE w b off es) (g : IsG s es) (hl : cs.length = m) (hm : m ≤ 1048576) (hrc : SeesI w pc cs) (hno : ¬ ((m = n ∧ inR cs) ∧ isColP es cs)) :
    Calls Try.prog 35 #[.agg #[.int .i64 s, .slice (some ⟨b, off, none⟩) n c], .slice pc m f] w fun e' w' => e' = .returned (.tuple #[.slice none 0 0, .int .i64 (if m = n ∧ inR cs then 5 else 2)]) ∧ Below w.heap.size w w' := by
  have hn30 : n ≤ 30 := by have := isG_len g; omega
  have hn1 : 0 < n := by have h1 := g.1.1.1; have h2 := g.1.1.2.2.2; omega
  have Hn := hid hn
  have Hr := hid hr
  have Hl := hid hl
  have Hrc := hid hrc
  have G := hid g
  have HNo := hid hno
  clear hn hr g hl hrc hno
  by_cases hq : m = n ∧ inR cs
  all_goals
    have HQ := hid hq
    first | rw [if_pos HQ.out] | rw [if_neg HQ.out]
    clear hq
    go_enter Try.func35, Try.ntmps35
    go_wp2_with fail
    refine (iIsGraph_any _ _ _ _ es _ (by omega) Hn.out (SeesE.on (SeesE.on (.inr ⟨b, off, rfl, Hr.out⟩) (on_alloc _ _)) (on_alloc _ _))).mono ?_
    rw [decide_eq_true G.out]
    rintro e w2 ⟨rfl, hb2⟩
    have HB2 := hid (bfrom (w := w) (bfrom (on_alloc _ _) (on_alloc _ _)) hb2)
    have HX2 := hid (((Box.new w s (some ⟨b, off, none⟩) n c 31).on (on_alloc _ (.cells #[.slice pc m f] 25))).on hb2)
    have hx2 := HX2.out.1
    have hy2 := HX2.out.2
    have hz2 := HX2.out.lt
    have HC2 := hid (boxC_on (boxedC_at (w.alloc (.cells #[.int .i64 s, .slice (some ⟨b, off, none⟩) n c] 31)) (w.heap.size + 1) 25 (.slice pc m f) (by simp)) hb2)
    have hc2 := HC2.out.cell
    have hcz2 := HC2.out.lt
    clear hb2
    go_wp2_with fail
    refine (iAreCol_any pc m f n cs _ Hl.out hm (by omega) hn1 (Hrc.out.on HB2.out)).mono ?_
    first | rw [decide_eq_true HQ.out] | rw [decide_eq_false HQ.out]
    rintro e w4 ⟨rfl, hb4⟩
    have HB4 := hid (bfrom HB2.out hb4)
    have HX4 := hid (HX2.out.on hb4)
    have hx4 := HX4.out.1
    have hy4 := HX4.out.2
    have hz4 := HX4.out.lt
    have HC4 := hid (boxC_on HC2.out hb4)
    have hc4 := HC4.out.cell
    have hcz4 := HC4.out.lt
    clear hb4 hx2 hy2 hc2
  · have HNC := hid (show ¬ isColP es cs from fun h => HNo.out ⟨HQ.out, h⟩)
    go_wp2_with fail
    refine (iColIs_any s (some ⟨b, off, none⟩) pc n c m f es cs _ G.out Hn.out (.inr ⟨b, off, rfl, Hr.out.on HB4.out⟩) Hl.out hm (Hrc.out.on HB4.out)).mono ?_
    rw [decide_eq_false HNC.out]
    rintro e w5 ⟨rfl, hb5⟩
    have HB5 := hid (bfrom HB4.out hb5)
    clear hb5
    go_wp2
    go_ret2
    exact ⟨rfl, HB5.out⟩
  · go_wp2
    go_ret2
    exact ⟨rfl, HB4.out⟩

theorem sCoverOfColouring_any (s : Int) (p : Option Addr) (n c : Nat) (es : List (Int × Int)) (pc : Option Addr) (m f : Nat) (cs : List Int) (w : World) (hm : n ≤ 1048576) (hn : es.length = n) (hr : SeesE w p es) (_ : m ≤ 1048576) (hl : cs.length = m) (hrc : SeesI w pc cs) :
    Calls Try.prog 34 #[.agg #[.int .i64 s, .slice p n c], .slice pc m f] w fun e' w' => ∃ q cap, e' = .returned (.tuple #[.slice q (fCoverOfColouring s es cs).1.length cap, .int .i64 (fCoverOfColouring s es cs).2]) ∧ SeesL w' q (fCoverOfColouring s es cs).1 ∧ Below w.heap.size w w' := by
  unfold fCoverOfColouring
  by_cases g : IsG s es
  · rw [if_pos g]
    have h30 := isG_len g
    have h1 := g.1.1.1
    have h2 := g.1.1.2.2.2
    by_cases h : m = n
    · subst h
      obtain ⟨N, rfl⟩ : ∃ N : Nat, s = N := ⟨_, (Int.toNat_of_nonneg (by omega)).symm⟩
      obtain ⟨b, off, rfl, rd⟩ := isG_sees g hr
      obtain ⟨cb, co, rfl, rc⟩ : ∃ b off, pc = some ⟨b, off, none⟩ ∧ ReadsI w b off cs := by
        rcases hrc with h3 | h3
        · rw [h3] at hl; simp at hl; omega
        · exact h3
      have e : (if cs.length = es.length ∧ inR cs then (if isColP es cs then (cvU es cs 3, (0 : Int)) else ([], 5)) else ([], 2)) = cvF es cs := by
        unfold cvF
        by_cases h4 : inR cs
        · rw [if_pos ⟨by omega, h4⟩, if_pos h4]
        · rw [if_neg (fun h5 => h4 h5.2), if_neg h4]
      rw [e]
      exact sCov_yes N b off _ c cb co f es cs w hn rd g hl rc
    · rw [if_neg (fun h3 => h (by omega))]
      exact (sCov_len s p pc n c m f es w hm hn hr g h).mono fun _ _ ⟨h1, h2⟩ => ⟨none, 0, h1, .inl rfl, h2⟩
  · rw [if_neg g]
    exact (sCov_no s p pc n c m f es w hm hn hr g).mono fun _ _ ⟨h1, h2⟩ => ⟨none, 0, h1, .inl rfl, h2⟩

theorem iCoverOfColouring_any (s : Int) (p : Option Addr) (n c : Nat) (es : List (Int × Int)) (pc : Option Addr) (m f : Nat) (cs : List Int) (w : World) (hm : n ≤ 1048576) (hn : es.length = n) (hr : SeesE w p es) (hm2 : m ≤ 1048576) (hl : cs.length = m) (hrc : SeesI w pc cs) :
    Calls Try.prog 35 #[.agg #[.int .i64 s, .slice p n c], .slice pc m f] w fun e' w' => ∃ q cap, e' = .returned (.tuple #[.slice q (fCoverOfColouring s es cs).1.length cap, .int .i64 (fCoverOfColouring s es cs).2]) ∧ FreshP w.heap.size w' q (fCoverOfColouring s es cs).1.length (fCoverOfColouring s es cs).1 ∧ Below w.heap.size w w' := by
  unfold fCoverOfColouring
  by_cases g : IsG s es
  · rw [if_pos g]
    have h30 := isG_len g
    have h1 := g.1.1.1
    have h2 := g.1.1.2.2.2
    obtain ⟨b, off, rfl, rd⟩ := isG_sees g hr
    by_cases h : (m = n ∧ inR cs) ∧ isColP es cs
    · obtain ⟨⟨rfl, hin⟩, gc⟩ := h
      obtain ⟨N, rfl⟩ : ∃ N : Nat, s = N := ⟨_, (Int.toNat_of_nonneg (by omega)).symm⟩
      obtain ⟨cb, co, rfl, rc⟩ : ∃ b off, pc = some ⟨b, off, none⟩ ∧ ReadsI w b off cs := by
        rcases hrc with h3 | h3
        · rw [h3] at hl; simp at hl; omega
        · exact h3
      rw [if_pos ⟨by omega, hin⟩, if_pos gc]
      exact iCv_yes N b off _ c cb co f es cs w hn rd g hl rc gc hin
    · have hb := iCv_bad s b off n c m f pc es cs w hn rd g hl hm2 hrc h
      by_cases h3 : m = n ∧ inR cs
      · rw [if_pos h3] at hb
        rw [if_pos ⟨by omega, h3.2⟩, if_neg (fun h4 => h ⟨h3, h4⟩)]
        exact hb.mono fun _ _ ⟨h1, h2⟩ => ⟨none, 0, h1, ⟨rfl, .inl rfl⟩, h2⟩
      · rw [if_neg h3] at hb
        rw [if_neg (fun h4 => h3 ⟨by omega, h4.2⟩)]
        exact hb.mono fun _ _ ⟨h1, h2⟩ => ⟨none, 0, h1, ⟨rfl, .inl rfl⟩, h2⟩
  · rw [if_neg g]
    exact (iCv_no s p pc n c m f es w hm hn hr g).mono fun _ _ ⟨h1, h2⟩ => ⟨none, 0, h1, ⟨rfl, .inl rfl⟩, h2⟩

end Go.Proofs.Ytogdcoioflcdiaa

namespace Go.Proofs.Ytogdcoioflcdiaa
open Go.RowKit

set_option maxRecDepth 100000 in
set_option maxHeartbeats 8000000 in
theorem lawCoverOfColouring_big1 (s0 : Int) (p0 : Option Addr) (n0 c0 : Nat) (p1 : Option Addr) (n1 c1 : Nat) (w : World) (m1 : n1 ≤ 9223372036854775807) (b1 : 1048576 < n1) :
    Calls Try.prog 7 #[.agg #[.int .i64 s0, .slice p0 n0 c0], .slice p1 n1 c1] w fun e' w' => e' = .returned (.bool true) ∧ Below w.heap.size w w' := by
  go_enter Try.func7, Try.ntmps7
  go_wp2_with fail
  go_ret
  exact ⟨rfl, by go_grown⟩

set_option maxRecDepth 100000 in
set_option maxHeartbeats 8000000 in
theorem lawCoverOfColouring_big0 (s0 : Int) (p0 : Option Addr) (n0 c0 : Nat) (p1 : Option Addr) (n1 c1 : Nat) (w : World) (m1 : n1 ≤ 9223372036854775807) (m0 : n0 ≤ 9223372036854775807) (b1 : n1 ≤ 1048576) (bg : 1048576 < n0) :
    Calls Try.prog 7 #[.agg #[.int .i64 s0, .slice p0 n0 c0], .slice p1 n1 c1] w fun e' w' => e' = .returned (.bool true) ∧ Below w.heap.size w w' := by
  have BG := hid bg
  clear bg
  go_enter Try.func7, Try.ntmps7
  go_wp2_with fail
  refine (szGraph_any _ _ _ _ _ _ m0 (by omega) (by omega)).mono ?_
  rw [if_pos (by have := BG.out; omega)]
  rintro e' w2 ⟨rfl, hb2⟩
  have hB2 := bfrom (w := w) (by go_grown) hb2
  go_wp2
  go_ret
  exact ⟨rfl, hB2⟩

set_option maxRecDepth 100000 in
set_option maxHeartbeats 8000000 in
theorem lawCoverOfColouring_small (s0 : Int) (p0 : Option Addr) (n0 c0 : Nat) (es0 : List (Int × Int)) (p1 : Option Addr) (n1 c1 : Nat) (es1 : List Int) (w : World) (hn0 : es0.length = n0) (hm0 : n0 ≤ 1048576) (hr0 : SeesE w p0 es0) (hn1 : es1.length = n1) (hm1 : n1 ≤ 1048576) (hr1 : SeesI w p1 es1) :
    Calls Try.prog 7 #[.agg #[.int .i64 s0, .slice p0 n0 c0], .slice p1 n1 c1] w fun e' w' => e' = .returned (.bool true) ∧ Below w.heap.size w w' := by
  have hq0 : n0 ≤ 9223372036854775807 := by omega
  have hq1 : n1 ≤ 9223372036854775807 := by omega
  have hge0 : ¬ ((1048576 : Int) - n0 < 0) := by omega
  have Hn0 := hid hn0
  have Hm0 := hid hm0
  have Hr0 := hid hr0
  have Hn1 := hid hn1
  have Hm1 := hid hm1
  have Hr1 := hid hr1
  obtain ⟨L, cd, hR⟩ : ∃ L cd, fCoverOfColouring s0 es0 es1 = (L, cd) := ⟨_, _, rfl⟩
  obtain ⟨l, hl⟩ : ∃ l, L.length = l := ⟨_, rfl⟩
  have hl1 : l ≤ 1048576 := by have h := fCoverOfColouring_len s0 es0 es1 (by omega) (by omega); rw [hR] at h; rw [← hl]; exact h
  have hl2 : l ≤ 9223372036854775807 := by omega
  obtain ⟨T, hT⟩ : ∃ T, sumLL L l = T := ⟨_, rfl⟩
  have hT1 : 1 + T ≤ 1048576 := by have h := fCoverOfColouring_sum s0 es0 es1; rw [hR] at h; dsimp only at h; rw [hl, hT] at h; exact h (by omega) (by omega)
  have hrows : ∀ i, i < l → (lI L i).length ≤ 1048576 := fun i hi => by have h := sumLL_lt L hi; omega
  obtain ⟨mk, hmk⟩ : ∃ mk : Int, mk = 1 + (T : Int) := ⟨_, rfl⟩
  have hmk0 : decide (mk < 0) = false := by simp; omega
  have hmk1 : (mk != mk) = false := by simp
  have hne0 : (cd != cd) = false := by simp
  have hS := fun (q0 : Option Addr) (cc0 : Nat) (q1 : Option Addr) (cc1 : Nat) (ww : World) (hh0 : SeesE ww q0 es0) (hh1 : SeesI ww q1 es1) => sCoverOfColouring_any s0 q0 n0 cc0 es0 q1 n1 cc1 es1 ww hm0 hn0 hh0 hm1 hn1 hh1
  have hI := fun (q0 : Option Addr) (cc0 : Nat) (q1 : Option Addr) (cc1 : Nat) (ww : World) (hh0 : SeesE ww q0 es0) (hh1 : SeesI ww q1 es1) => iCoverOfColouring_any s0 q0 n0 cc0 es0 q1 n1 cc1 es1 ww hm0 hn0 hh0 hm1 hn1 hh1
  rw [hR] at hS hI
  dsimp only at hS hI
  rw [hl] at hS hI
  have HLl := hid hl
  have Hl1 := hid hl1
  have Hmk := hid hmk
  have HS := hid hS
  have HI := hid hI
  have hbb1 : n1 ≤ 1048576 := hm1
  obtain ⟨kk0, hkk0⟩ : ∃ kk0 : Int, kk0 = 1 + 2 * (n0 : Int) := ⟨_, rfl⟩
  have hkb0 : 0 ≤ kk0 ∧ kk0 ≤ 4194304 := by omega
  obtain ⟨kk1, hkk1⟩ : ∃ kk1 : Int, kk1 = kk0 + (n1 : Int) := ⟨_, rfl⟩
  have hkb1 : 0 ≤ kk1 ∧ kk1 ≤ 8388608 := by omega
  have hkn : decide (kk1 < 0) = false := by simp; omega
  have Hkk0 := hid hkk0
  have Hkb0 := hid hkb0
  have Hkk1 := hid hkk1
  have Hkb1 := hid hkb1
  have HTT := hid hT
  have HT1 := hid hT1
  have Hrows := hid hrows
  clear hT hT1 hrows
  clear hn0 hm0 hr0 hn1 hm1 hr1 hR hS hI hl hl1 hmk hkk0 hkb0 hkk1 hkb1
  go_enter Try.func7, Try.ntmps7
  go_wp2_with fail
  have HA0_1 : Hid (Box (w.alloc (.cells #[.int .i64 s0, .slice p0 n0 c0] 24)) (w.heap.size) s0 p0 n0 c0) := hid (by have h := (Box.new w s0 p0 n0 c0 24); first | exact h | simpa only [World.size_alloc] using h)
  have HB1 : Hid (Below w.heap.size w (w.alloc (.cells #[.int .i64 s0, .slice p0 n0 c0] 24))) := hid (bfrom (Below.refl _ _) (on_alloc _ (.cells #[.int .i64 s0, .slice p0 n0 c0] 24)))
  refine (szGraph_any _ _ _ _ _ _ hq0 (by omega) (by omega)).mono ?_
  rw [if_neg (by omega)]
  rintro e' w2 ⟨rfl, hb2⟩
  have HA0_2 := hid (HA0_1.out.on hb2)
  have HB2 := hid (bfrom HB1.out hb2)
  have hs2 : w.heap.size + 1 ≤ w2.heap.size := by have h := hb2.size; simp only [World.size_alloc] at h; omega
  clear HA0_1 HB1 hb2
  have hxA0 := HA0_2.out.1
  have hyA0 := HA0_2.out.2
  have hzA0 := HA0_2.out.lt
  go_wp2_with fail
  refine (toGraph_any _ _ _ _ es0 _ Hn0.out Hm0.out (Hr0.out.on HB2.out)).mono ?_
  rintro e' w3 ⟨gT0, rfl, hgT0, hoT0, hb3⟩
  have hfT0 := FreshE.of_own hoT0 Hn0.out hgT0
  clear hoT0 hgT0
  have HA0_3 := hid (HA0_2.out.on hb3)
  have HB3 := hid (bfrom HB2.out hb3)
  have hs3 : w2.heap.size ≤ w3.heap.size := by have h := hb3.size; omega
  clear hxA0 hyA0 hzA0
  clear HA0_2 HB2 hb3
  have HT0_3 := hid hfT0
  have hq := fun g h => hfT0.own (g := g) h
  have QT0 := hid hq
  clear hfT0 hq
  have hxA0 := HA0_3.out.1
  have hyA0 := HA0_3.out.2
  have hzA0 := HA0_3.out.lt
  go_wp2_with fail
  refine (toInts_sees _ _ _ es1 _ Hn1.out Hm1.out (Hr1.out.on HB3.out)).mono ?_
  rintro e' w4 ⟨gT1, rfl, hgT1, hoT1, hb4⟩
  have hfT1 := FreshI.of_own hoT1 Hn1.out hgT1
  clear hoT1 hgT1
  have HA0_4 := hid (HA0_3.out.on hb4)
  have HT0_4 := hid (HT0_3.out.on hb4)
  have HB4 := hid (bfrom HB3.out hb4)
  have hs4 : w3.heap.size ≤ w4.heap.size := by have h := hb4.size; omega
  clear hxA0 hyA0 hzA0
  clear HA0_3 HT0_3 HB3 hb4
  have HT1_4 := hid hfT1
  have hq := fun g h => hfT1.own (g := g) h
  have QT1 := hid hq
  clear hfT1 hq
  have hxA0 := HA0_4.out.1
  have hyA0 := HA0_4.out.2
  have hzA0 := HA0_4.out.lt
  go_wp2_with fail
  refine (HS.out _ _ _ _ _ HT0_4.out.sees HT1_4.out.sees).mono ?_
  rintro e' w5 ⟨qW, capW, rfl, hfW, hb5⟩
  have HA0_5 := hid (HA0_4.out.on hb5)
  have HT0_5 := hid (HT0_4.out.on hb5)
  have HT1_5 := hid (HT1_4.out.on hb5)
  have HB5 := hid (bfrom HB4.out hb5)
  have hs5 : w4.heap.size ≤ w5.heap.size := by have h := hb5.size; omega
  clear hxA0 hyA0 hzA0
  clear HA0_4 HT0_4 HT1_4 HB4 hb5
  have HWs := hid hfW
  have VW_5 := hid (Below.refl w5.heap.size w5)
  clear hfW
  clear HT0_5
  clear HT1_5
  have hxA0 := HA0_5.out.1
  have hyA0 := HA0_5.out.2
  have hzA0 := HA0_5.out.lt
  go_wp2_with fail
  refine (toGraph_any _ _ _ _ es0 _ Hn0.out Hm0.out (Hr0.out.on HB5.out)).mono ?_
  rintro e' w6 ⟨gX0, rfl, hgX0, hoX0, hb6⟩
  have hfX0 := FreshE.of_own hoX0 Hn0.out hgX0
  clear hoX0 hgX0
  have HA0_6 := hid (HA0_5.out.on hb6)
  have HB6 := hid (bfrom HB5.out hb6)
  have VW_6 := hid (bfrom VW_5.out hb6)
  have hs6 : w5.heap.size ≤ w6.heap.size := by have h := hb6.size; omega
  clear hxA0 hyA0 hzA0
  clear HA0_5 HB5 hb6
  have HX0_6 := hid hfX0
  have hq := fun g h => hfX0.own (g := g) h
  have QX0 := hid hq
  clear hfX0 hq
  have hxA0 := HA0_6.out.1
  have hyA0 := HA0_6.out.2
  have hzA0 := HA0_6.out.lt
  go_wp2_with fail
  refine (toInts_sees _ _ _ es1 _ Hn1.out Hm1.out (Hr1.out.on (bfrom HB6.out (on_alloc _ _)))).mono ?_
  rintro e' w7 ⟨gX1, rfl, hgX1, hoX1, hb7⟩
  have hfX1 := FreshI.of_own hoX1 Hn1.out hgX1
  clear hoX1 hgX1
  have HA0_7 := hid ((HA0_6.out.on (on_alloc _ _)).on hb7)
  have HX0_7 := hid ((HX0_6.out.on (on_alloc _ _)).on hb7)
  have HXB0_7 := hid ((Box.new w6 s0 (some ⟨gX0, 0, none⟩) n0 n0 31).on hb7)
  have HB7 := hid (bfrom (bfrom HB6.out (on_alloc _ _)) hb7)
  have VW_7 := hid (bfrom (bfrom VW_6.out (on_alloc _ _)) hb7)
  have hs7 : w6.heap.size + 1 ≤ w7.heap.size := by have h := hb7.size; simp only [World.size_alloc] at h; omega
  clear hxA0 hyA0 hzA0
  clear HA0_6 HX0_6 HB6 hb7
  have HX1_7 := hid hfX1
  have hq := fun g h => hfX1.own (g := g) h
  simp only [World.size_alloc] at hq
  have QX1 := hid hq
  clear hfX1 hq
  have hxA0 := HA0_7.out.1
  have hyA0 := HA0_7.out.2
  have hzA0 := HA0_7.out.lt
  have hxXB0 := HXB0_7.out.1
  have hyXB0 := HXB0_7.out.2
  have hzXB0 := HXB0_7.out.lt
  go_wp2_with fail
  refine (HI.out _ _ _ _ _ HX0_7.out.sees HX1_7.out.sees).mono ?_
  rintro e' w8 ⟨qG, capG, rfl, hfG, hb8⟩
  have HA0_8 := hid (HA0_7.out.on hb8)
  have HX0_8 := hid (HX0_7.out.on hb8)
  have HXB0_8 := hid (HXB0_7.out.on hb8)
  have HX1_8 := hid (HX1_7.out.on hb8)
  have HB8 := hid (bfrom HB7.out hb8)
  have VW_8 := hid (bfrom VW_7.out hb8)
  have hs8 : w7.heap.size ≤ w8.heap.size := by have h := hb8.size; omega
  clear hxA0 hyA0 hzA0 hxXB0 hyXB0 hzXB0
  clear HA0_7 HX0_7 HXB0_7 HX1_7 HB7 hb8
  have HG_8 := hid hfG
  clear hfG
  have hxA0 := HA0_8.out.1
  have hyA0 := HA0_8.out.2
  have hzA0 := HA0_8.out.lt
  have hxXB0 := HXB0_8.out.1
  have hyXB0 := HXB0_8.out.2
  have hzXB0 := HXB0_8.out.lt
  go_wp2_with fail
  refine (eqLists_self _ _ _ _ _ L _ HLl.out Hl1.out Hrows.out HG_8.out.sees (HWs.out.on VW_8.out)).mono ?_
  rintro e' w9 ⟨rfl, hb9⟩
  have HA0_9 := hid (HA0_8.out.on hb9)
  have HX0_9 := hid (HX0_8.out.on hb9)
  have HXB0_9 := hid (HXB0_8.out.on hb9)
  have HX1_9 := hid (HX1_8.out.on hb9)
  have HG_9 := hid (HG_8.out.on hb9)
  have HB9 := hid (bfrom HB8.out hb9)
  have VW_9 := hid (bfrom VW_8.out hb9)
  have hs9 : w8.heap.size ≤ w9.heap.size := by have h := hb9.size; omega
  clear hxA0 hyA0 hzA0 hxXB0 hyXB0 hzXB0
  clear HA0_8 HX0_8 HXB0_8 HX1_8 HG_8 HB8 hb9
  have hxA0 := HA0_9.out.1
  have hyA0 := HA0_9.out.2
  have hzA0 := HA0_9.out.lt
  have hxXB0 := HXB0_9.out.1
  have hyXB0 := HXB0_9.out.2
  have hzXB0 := HXB0_9.out.lt
  go_upto_region 13 with fail
  go_cut [56] (fun u wx => u = .bool false ∧ Hid (Below w9.heap.size w9 wx))
  case first =>
    go_region_with (first
      | (go_at_call 17; refine (toGraph_any _ _ _ _ es0 _ Hn0.out Hm0.out ?_).mono ?_; (first | exact Hr0.out.on HB9.out | exact Hr0.out.on HB9.out.drew); rintro e' w10 ⟨gY0, rfl, hgY0, hoY0, hb10⟩; have HoY0 := hid hoY0; clear hoY0; have huXB0 := ((bcells hb10).1 _ _ hzXB0).trans hxXB0; have hvXB0 := ((bcells hb10).1 _ _ hzXB0).trans hyXB0)
      | (go_at_call 21; refine (eqGraph_self _ _ _ _ _ _ es0 _ Hn0.out hq0 ?_ ?_).mono ?_; (exact (HX0_9.out.drew.on hb10).sees); (exact HoY0.out.sees); rintro e' w11 ⟨rfl, hb11⟩))
    all_goals (go_wp2_with fail; go_meet; exact ⟨rfl, hid (bfrom (bfrom (Below.refl _ _).drew hb10) hb11)⟩)
  case rest =>
  obtain ⟨rfl, hcb⟩ := hcut
  obtain ⟨w12, rfl⟩ : ∃ w12, w12 = wc := ⟨_, rfl⟩
  have hb12 := hcb.out
  clear hcb
  have HA0_12 := hid (HA0_9.out.on hb12)
  have HX0_12 := hid (HX0_9.out.on hb12)
  have HXB0_12 := hid (HXB0_9.out.on hb12)
  have HX1_12 := hid (HX1_9.out.on hb12)
  have HG_12 := hid (HG_9.out.on hb12)
  have HB12 := hid (bfrom HB9.out hb12)
  have VW_12 := hid (bfrom VW_9.out hb12)
  have hs12 : w9.heap.size ≤ w12.heap.size := hb12.size
  clear hxA0 hyA0 hzA0 hxXB0 hyXB0 hzXB0
  clear HA0_9 HX0_9 HXB0_9 HX1_9 HG_9 HB9 hb12
  have hxA0 := HA0_12.out.1
  have hyA0 := HA0_12.out.2
  have hzA0 := HA0_12.out.lt
  have hxXB0 := HXB0_12.out.1
  have hyXB0 := HXB0_12.out.2
  have hzXB0 := HXB0_12.out.lt
  go_wp2_with fail
  refine (toInts_sees _ _ _ es1 _ Hn1.out Hm1.out (Hr1.out.on HB12.out)).mono ?_
  rintro e' w13 ⟨gY1, rfl, hgY1, hoY1, hb13⟩
  have hfY1 := FreshI.of_own hoY1 Hn1.out hgY1
  clear hoY1 hgY1
  have HA0_13 := hid (HA0_12.out.on hb13)
  have HX0_13 := hid (HX0_12.out.on hb13)
  have HXB0_13 := hid (HXB0_12.out.on hb13)
  have HX1_13 := hid (HX1_12.out.on hb13)
  have HG_13 := hid (HG_12.out.on hb13)
  have HB13 := hid (bfrom HB12.out hb13)
  have VW_13 := hid (bfrom VW_12.out hb13)
  have hs13 : w12.heap.size ≤ w13.heap.size := by have h := hb13.size; omega
  clear hxA0 hyA0 hzA0 hxXB0 hyXB0 hzXB0
  clear HA0_12 HX0_12 HXB0_12 HX1_12 HG_12 HB12 hb13
  have HY1_13 := hid hfY1
  have hq := fun g h => hfY1.own (g := g) h
  have QY1 := hid hq
  clear hfY1 hq
  have hxA0 := HA0_13.out.1
  have hyA0 := HA0_13.out.2
  have hzA0 := HA0_13.out.lt
  have hxXB0 := HXB0_13.out.1
  have hyXB0 := HXB0_13.out.2
  have hzXB0 := HXB0_13.out.lt
  go_wp2_with fail
  refine (eqInts_self _ _ _ _ _ es1 _ Hn1.out hq1 HX1_13.out.sees HY1_13.out.sees).mono ?_
  rintro e' w14 ⟨rfl, hb14⟩
  have HA0_14 := hid (HA0_13.out.on hb14)
  have HX0_14 := hid (HX0_13.out.on hb14)
  have HXB0_14 := hid (HXB0_13.out.on hb14)
  have HX1_14 := hid (HX1_13.out.on hb14)
  have HG_14 := hid (HG_13.out.on hb14)
  have HY1_14 := hid (HY1_13.out.on hb14)
  have HB14 := hid (bfrom HB13.out hb14)
  have VW_14 := hid (bfrom VW_13.out hb14)
  have hs14 : w13.heap.size ≤ w14.heap.size := by have h := hb14.size; omega
  clear hxA0 hyA0 hzA0 hxXB0 hyXB0 hzXB0
  clear HA0_13 HX0_13 HXB0_13 HX1_13 HG_13 HY1_13 HB13 hb14
  clear HY1_14
  have hxA0 := HA0_14.out.1
  have hyA0 := HA0_14.out.2
  have hzA0 := HA0_14.out.lt
  have hxXB0 := HXB0_14.out.1
  have hyXB0 := HXB0_14.out.2
  have hzXB0 := HXB0_14.out.lt
  go_wp2_with fail
  refine (markGraph_k _ _ _ _ 1 es0 _ Hm0.out (by omega) (by omega) HX0_14.out).mono ?_
  rw [← Hkk0.out]
  rintro e' w15 ⟨rfl, hfm0, hg15⟩
  have HA0_15 := hid (HA0_14.out.kept hg15 (sep_box QX0.out (by omega)))
  have HXB0_15 := hid (HXB0_14.out.kept hg15 (sep_box QX0.out (by omega)))
  have HX1_15 := hid (HX1_14.out.kept hg15 (sep_own QX0.out QX1.out (by omega)))
  have HG_15 := hid (HG_14.out.grown hg15 (fun r hr => by have h := (QX0.out r hr).2; (try simp only [World.size_alloc]); omega))
  have HB15 := hid (HB14.out.grown hg15 HB14.out.size (fun k hk => by have h := (QX0.out k hk).1; omega))
  have VW_15 := hid (VW_14.out.grown hg15 VW_14.out.size (fun k hk => by have h := (QX0.out k hk).1; omega))
  have hs15 : w14.heap.size ≤ w15.heap.size := hg15.size
  clear hxA0 hyA0 hzA0 hxXB0 hyXB0 hzXB0
  clear HA0_14 HX0_14 HXB0_14 HX1_14 HG_14 HB14 hg15
  clear hfm0
  have hxA0 := HA0_15.out.1
  have hyA0 := HA0_15.out.2
  have hzA0 := HA0_15.out.lt
  have hxXB0 := HXB0_15.out.1
  have hyXB0 := HXB0_15.out.2
  have hzXB0 := HXB0_15.out.lt
  go_wp2_with fail
  refine (markInts_k _ _ _ kk0 es1 _ Hm1.out Hkb0.out.1 (by have := Hkb0.out.2; omega) HX1_15.out).mono ?_
  rw [← Hkk1.out]
  rintro e' w16 ⟨rfl, hfm1, hg16⟩
  have HA0_16 := hid (HA0_15.out.kept hg16 (sep_box QX1.out (by omega)))
  have HXB0_16 := hid (HXB0_15.out.kept hg16 (sep_box QX1.out (by omega)))
  have HG_16 := hid (HG_15.out.grown hg16 (fun r hr => by have h := (QX1.out r hr).2; (try simp only [World.size_alloc]); omega))
  have HB16 := hid (HB15.out.grown hg16 HB15.out.size (fun k hk => by have h := (QX1.out k hk).1; omega))
  have VW_16 := hid (VW_15.out.grown hg16 VW_15.out.size (fun k hk => by have h := (QX1.out k hk).1; omega))
  have hs16 : w15.heap.size ≤ w16.heap.size := hg16.size
  clear hxA0 hyA0 hzA0 hxXB0 hyXB0 hzXB0
  clear HA0_15 HXB0_15 HX1_15 HG_15 HB15 hg16
  clear hfm1
  have hxA0 := HA0_16.out.1
  have hyA0 := HA0_16.out.2
  have hzA0 := HA0_16.out.lt
  have hxXB0 := HXB0_16.out.1
  have hyXB0 := HXB0_16.out.2
  have hzXB0 := HXB0_16.out.lt
  go_wp2_with fail
  refine (eqLists_self _ _ _ _ _ L _ HLl.out Hl1.out Hrows.out HG_16.out.sees (HWs.out.on VW_16.out)).mono ?_
  rintro e' w17 ⟨rfl, hb17⟩
  have HA0_17 := hid (HA0_16.out.on hb17)
  have HXB0_17 := hid (HXB0_16.out.on hb17)
  have HG_17 := hid (HG_16.out.on hb17)
  have HB17 := hid (bfrom HB16.out hb17)
  have VW_17 := hid (bfrom VW_16.out hb17)
  have hs17 : w16.heap.size ≤ w17.heap.size := by have h := hb17.size; omega
  clear hxA0 hyA0 hzA0 hxXB0 hyXB0 hzXB0
  clear HA0_16 HXB0_16 HG_16 HB16 hb17
  have hxA0 := HA0_17.out.1
  have hyA0 := HA0_17.out.2
  have hzA0 := HA0_17.out.lt
  have hxXB0 := HXB0_17.out.1
  have hyXB0 := HXB0_17.out.2
  have hzXB0 := HXB0_17.out.lt
  go_wp2_with fail
  refine (markPlc_k _ _ _ T _ 1 L _ Hl1.out HTT.out (by omega) (by have := HT1.out; omega) (by (try simp only [World.size_alloc]); omega) HG_17.out).mono ?_
  rw [← Hmk.out]
  rintro e' w18 ⟨rfl, hfm, hg18⟩
  have HA0_18 := hid (Box.below HA0_17.out hg18 (by (try simp only [World.size_alloc]); omega))
  have HXB0_18 := hid (Box.below HXB0_17.out hg18 (by (try simp only [World.size_alloc]); omega))
  have HB18 := hid (HB17.out.trans (hg18.mono (by (try simp only [World.size_alloc]); omega)))
  have VW_18 := hid (VW_17.out.trans (hg18.mono (by (try simp only [World.size_alloc]); omega)))
  have hs18 : w17.heap.size ≤ w18.heap.size := hg18.size
  clear hxA0 hyA0 hzA0 hxXB0 hyXB0 hzXB0
  clear HA0_17 HXB0_17 HG_17 HB17 hg18
  have HK_18 := hid hfm
  clear hfm
  have hxA0 := HA0_18.out.1
  have hyA0 := HA0_18.out.2
  have hzA0 := HA0_18.out.lt
  have hxXB0 := HXB0_18.out.1
  have hyXB0 := HXB0_18.out.2
  have hzXB0 := HXB0_18.out.lt
  go_wp2_with fail
  refine (heldLists_sees _ _ T _ 1 L _ HLl.out Hl1.out HTT.out (by omega) (by have := HT1.out; omega) HK_18.out.sees).mono ?_
  rw [← Hmk.out]
  rintro e' w18' ⟨rfl, rfl⟩
  clear hxA0 hyA0 hzA0 hxXB0 hyXB0 hzXB0
  have hxA0 := HA0_18.out.1
  have hyA0 := HA0_18.out.2
  have hzA0 := HA0_18.out.lt
  have hxXB0 := HXB0_18.out.1
  have hyXB0 := HXB0_18.out.2
  have hzXB0 := HXB0_18.out.lt
  go_wp2_with fail
  refine (toGraph_any _ _ _ _ es0 _ Hn0.out Hm0.out (Hr0.out.on HB18.out)).mono ?_
  rintro e' w19 ⟨gZ0, rfl, hgZ0, hoZ0, hb19⟩
  have hfZ0 := FreshE.of_own hoZ0 Hn0.out hgZ0
  clear hoZ0 hgZ0
  have HA0_19 := hid (HA0_18.out.on hb19)
  have HXB0_19 := hid (HXB0_18.out.on hb19)
  have HK_19 := hid (HK_18.out.on hb19)
  have HB19 := hid (bfrom HB18.out hb19)
  have VW_19 := hid (bfrom VW_18.out hb19)
  have hs19 : w18.heap.size ≤ w19.heap.size := by have h := hb19.size; omega
  clear hxA0 hyA0 hzA0 hxXB0 hyXB0 hzXB0
  clear HA0_18 HXB0_18 HK_18 HB18 hb19
  have HZ0_19 := hid hfZ0
  have hq := fun g h => hfZ0.own (g := g) h
  have QZ0 := hid hq
  clear hfZ0 hq
  have hxA0 := HA0_19.out.1
  have hyA0 := HA0_19.out.2
  have hzA0 := HA0_19.out.lt
  have hxXB0 := HXB0_19.out.1
  have hyXB0 := HXB0_19.out.2
  have hzXB0 := HXB0_19.out.lt
  go_wp2_with fail
  refine (toInts_sees _ _ _ es1 _ Hn1.out Hm1.out (Hr1.out.on HB19.out)).mono ?_
  rintro e' w20 ⟨gZ1, rfl, hgZ1, hoZ1, hb20⟩
  have hfZ1 := FreshI.of_own hoZ1 Hn1.out hgZ1
  clear hoZ1 hgZ1
  have HA0_20 := hid (HA0_19.out.on hb20)
  have HXB0_20 := hid (HXB0_19.out.on hb20)
  have HK_20 := hid (HK_19.out.on hb20)
  have HZ0_20 := hid (HZ0_19.out.on hb20)
  have HB20 := hid (bfrom HB19.out hb20)
  have VW_20 := hid (bfrom VW_19.out hb20)
  have hs20 : w19.heap.size ≤ w20.heap.size := by have h := hb20.size; omega
  clear hxA0 hyA0 hzA0 hxXB0 hyXB0 hzXB0
  clear HA0_19 HXB0_19 HK_19 HZ0_19 HB19 hb20
  have HZ1_20 := hid hfZ1
  have hq := fun g h => hfZ1.own (g := g) h
  have QZ1 := hid hq
  clear hfZ1 hq
  have hxA0 := HA0_20.out.1
  have hyA0 := HA0_20.out.2
  have hzA0 := HA0_20.out.lt
  have hxXB0 := HXB0_20.out.1
  have hyXB0 := HXB0_20.out.2
  have hzXB0 := HXB0_20.out.lt
  go_wp2_with fail
  refine (HI.out _ _ _ _ _ HZ0_20.out.sees HZ1_20.out.sees).mono ?_
  rintro e' w21 ⟨qH, capH, rfl, hfH, hb21⟩
  have HA0_21 := hid (HA0_20.out.on hb21)
  have HXB0_21 := hid (HXB0_20.out.on hb21)
  have HK_21 := hid (HK_20.out.on hb21)
  have HZ0_21 := hid (HZ0_20.out.on hb21)
  have HZ1_21 := hid (HZ1_20.out.on hb21)
  have HB21 := hid (bfrom HB20.out hb21)
  have VW_21 := hid (bfrom VW_20.out hb21)
  have hs21 : w20.heap.size ≤ w21.heap.size := by have h := hb21.size; omega
  clear hxA0 hyA0 hzA0 hxXB0 hyXB0 hzXB0
  clear HA0_20 HXB0_20 HK_20 HZ0_20 HZ1_20 HB20 hb21
  have HH_21 := hid hfH
  clear hfH
  clear HZ0_21
  clear HZ1_21
  have hxA0 := HA0_21.out.1
  have hyA0 := HA0_21.out.2
  have hzA0 := HA0_21.out.lt
  have hxXB0 := HXB0_21.out.1
  have hyXB0 := HXB0_21.out.2
  have hzXB0 := HXB0_21.out.lt
  go_wp2_with fail
  refine (eqLists_self _ _ _ _ _ L _ HLl.out Hl1.out Hrows.out HH_21.out.sees (HWs.out.on VW_21.out)).mono ?_
  rintro e' w22 ⟨rfl, hb22⟩
  have HA0_22 := hid (HA0_21.out.on hb22)
  have HXB0_22 := hid (HXB0_21.out.on hb22)
  have HK_22 := hid (HK_21.out.on hb22)
  have HH_22 := hid (HH_21.out.on hb22)
  have HB22 := hid (bfrom HB21.out hb22)
  have VW_22 := hid (bfrom VW_21.out hb22)
  have hs22 : w21.heap.size ≤ w22.heap.size := by have h := hb22.size; omega
  clear hxA0 hyA0 hzA0 hxXB0 hyXB0 hzXB0
  clear HA0_21 HXB0_21 HK_21 HH_21 HB21 hb22
  have hxA0 := HA0_22.out.1
  have hyA0 := HA0_22.out.2
  have hzA0 := HA0_22.out.lt
  have hxXB0 := HXB0_22.out.1
  have hyXB0 := HXB0_22.out.2
  have hzXB0 := HXB0_22.out.lt
  go_wp2_with fail
  refine (heldLists_sees _ _ T _ 1 L _ HLl.out Hl1.out HTT.out (by omega) (by have := HT1.out; omega) HK_22.out.sees).mono ?_
  rw [← Hmk.out]
  rintro e' w22' ⟨rfl, rfl⟩
  clear hxA0 hyA0 hzA0 hxXB0 hyXB0 hzXB0
  go_wp2
  go_ret
  exact ⟨rfl, HB22.out⟩

theorem lawCoverOfColouring_any (s0 : Int) (p0 : Option Addr) (n0 c0 : Nat) (es0 : List (Int × Int)) (p1 : Option Addr) (n1 c1 : Nat) (es1 : List Int) (w : World) (hn0 : es0.length = n0) (hl0 : n0 ≤ 9223372036854775807) (hr0 : SeesE w p0 es0) (hn1 : es1.length = n1) (hl1 : n1 ≤ 9223372036854775807) (hr1 : SeesI w p1 es1) :
    Calls Try.prog 7 #[.agg #[.int .i64 s0, .slice p0 n0 c0], .slice p1 n1 c1] w fun e' w' => e' = .returned (.bool true) ∧ Below w.heap.size w w' := by
  rcases Nat.lt_or_ge 1048576 (n1) with h1 | h1
  · exact lawCoverOfColouring_big1 s0 p0 n0 c0 p1 n1 c1 w hl1 (by omega)
  rcases Nat.lt_or_ge 1048576 (n0) with h0 | h0
  · exact lawCoverOfColouring_big0 s0 p0 n0 c0 p1 n1 c1 w hl1 hl0 h1 (by omega)
  exact lawCoverOfColouring_small s0 p0 n0 c0 es0 p1 n1 c1 es1 w hn0 (by omega) hr0 hn1 (by omega) hr1

end Go.Proofs.Ytogdcoioflcdiaa
