/- The range over matchings, in the program: what restsOfMatchings' function owes. -/
import Derived.Test.YthacpadadccioaaMtI
namespace Go.Proofs.Ythacpadadccioaa
open Go.RowKit Go.Shelf

attribute [local go_sem] Oper.semAt_some

/-- The marks as the elements of an array. -/
abbrev metA (ms : List Bool) : Array Value := #[.bool (eL ms 0), .bool (eL ms 1), .bool (eL ms 2), .bool (eL ms 3), .bool (eL ms 4), .bool (eL ms 5), .bool (eL ms 6), .bool (eL ms 7), .bool (eL ms 8), .bool (eL ms 9), .bool (eL ms 10), .bool (eL ms 11), .bool (eL ms 12), .bool (eL ms 13), .bool (eL ms 14), .bool (eL ms 15), .bool (eL ms 16), .bool (eL ms 17), .bool (eL ms 18), .bool (eL ms 19)]

set_option maxRecDepth 100000 in
set_option maxHeartbeats 1000000 in
/-- The maker of the range: the graph and the marks are boxed. -/
theorem iRests_func (s : Int) (p : Option Addr) (n c : Nat) (ms : List Bool) (w : World) :
    Calls Try.prog 115 #[.agg #[.int .i64 s, .slice p n c], .agg (metA ms)] w fun e w' => e = .returned (.func (.func 147) #[] #[.pointer (some ⟨w.heap.size + 1, 0, none⟩), .pointer (some ⟨w.heap.size, 0, none⟩)]) ∧ w' = (w.alloc (.cells #[.int .i64 s, .slice p n c] 30)).alloc (.cells (metA ms) 117) := by
  go_enter Try.func115, Try.ntmps115
  go_wp2
  go_ret
  exact ⟨rfl, rfl⟩

/-- No vertex is met. -/
def metZ : Array Value := metA (List.replicate 20 false)

set_option maxRecDepth 100000 in
set_option maxHeartbeats 1000000 in
theorem iMatchings_func (s : Int) (p : Option Addr) (n c : Nat) (w : World) :
    Calls Try.prog 62 #[.agg #[.int .i64 s, .slice p n c]] w fun e w' => e = .returned (.func (.func 147) #[] #[.pointer (some ⟨w.heap.size + 2, 0, none⟩), .pointer (some ⟨w.heap.size + 1, 0, none⟩)]) ∧ w' = ((w.alloc (.cells #[.int .i64 s, .slice p n c] 30)).alloc (.cells #[.int .i64 s, .slice p n c] 30)).alloc (.cells metZ 117) := by
  go_enter Try.func62, Try.ntmps62
  go_wp2
  go_ret
  exact ⟨rfl, rfl⟩

theorem metA_at {ms : List Bool} {i : Nat} (hi : i < 20) : (metA ms)[i]? = some (.bool (eL ms i)) := by
  rcases (by omega : i = 0 ∨ i = 1 ∨ i = 2 ∨ i = 3 ∨ i = 4 ∨ i = 5 ∨ i = 6 ∨ i = 7 ∨ i = 8 ∨ i = 9 ∨ i = 10 ∨ i = 11 ∨ i = 12 ∨ i = 13 ∨ i = 14 ∨ i = 15 ∨ i = 16 ∨ i = 17 ∨ i = 18 ∨ i = 19) with h | h | h | h | h | h | h | h | h | h | h | h | h | h | h | h | h | h | h | h <;> subst h <;> rfl
theorem own_metA (w : World) (g : Nat) (ms : List Bool) (hl : ms.length = 20) (hg : g = w.heap.size) : OwnV (w.alloc (.cells (metA ms) 117)) g ms := by
  subst hg
  exact ⟨hl, _, heap_alloc_new w _, rfl, fun i hi => metA_at hi⟩

/-- Some truth values over others, from a place on. -/
def overB (xs : List Bool) (o : Nat) : List Bool → List Bool
  | [] => xs
  | y :: ys => overB (xs.set o y) (o + 1) ys
theorem overB_own {g : Nat} : ∀ (ys : List Bool) (xs : List Bool) (o : Nat) (w : World), o + ys.length ≤ 20 → OwnV w g xs → OwnV (w.setCells g o (ys.map Value.bool)) g (overB xs o ys)
  | [], _, _, _, _, h => h
  | y :: ys, xs, o, w, hl, h => by
    rw [List.length_cons] at hl
    exact overB_own ys (xs.set o y) (o + 1) (w.setCell ⟨g, o, none⟩ (.bool y)) (by omega) (h.set (by omega) y)
theorem overB_at : ∀ (ys xs : List Bool) (o i : Nat), o + ys.length ≤ xs.length → eL (overB xs o ys) i = if o ≤ i ∧ i < o + ys.length then eL ys (i - o) else eL xs i
  | [], xs, o, i, _ => by
    rw [if_neg (by simp)]
    rfl
  | y :: ys, xs, o, i, hl => by
    rw [List.length_cons] at hl ⊢
    unfold overB
    rw [overB_at ys _ _ _ (by rw [List.length_set]; omega), eL_set (by omega)]
    by_cases h1 : i = o
    · subst h1
      rw [if_neg (by omega), if_pos rfl, if_pos (by omega), Nat.sub_self]
      rfl
    · by_cases h2 : o + 1 ≤ i ∧ i < o + 1 + ys.length
      · rw [if_pos h2, if_pos (by omega), show i - o = (i - (o + 1)) + 1 by omega]
        rfl
      · rw [if_neg h2, if_neg h1, if_neg (by omega)]
theorem overB_len : ∀ (ys xs : List Bool) (o : Nat), (overB xs o ys).length = xs.length
  | [], _, _ => rfl
  | y :: ys, xs, o => by
    unfold overB
    rw [overB_len ys, List.length_set]
theorem overB_all {xs ys : List Bool} (hx : xs.length = 20) (hy : ys.length = 20) : overB xs 0 ys = ys := by
  apply List.ext_getElem (by rw [overB_len, hx, hy])
  intro i h1 h2
  have h := overB_at ys xs 0 i (by omega)
  rw [if_pos (by omega), Nat.sub_zero] at h
  rwa [eL_lt h1, eL_lt h2] at h
theorem metA_list {ms : List Bool} (hl : ms.length = 20) : (metA ms).toList = ms.map Value.bool := by
  apply List.ext_getElem? ; intro i
  by_cases hi : i < 20
  · rw [Array.getElem?_toList, metA_at hi, List.getElem?_map, List.getElem?_eq_getElem (by omega), eL_lt (by omega)]
    rfl
  · rw [List.getElem?_eq_none (by show 20 ≤ i; omega), List.getElem?_eq_none (by rw [List.length_map]; omega)]
theorem below_setCells {g : Nat} : ∀ (vs : List Value) (o : Nat) (w w' : World), Below g w w' → Below g w (w'.setCells g o vs)
  | [], _, _, _, h => h
  | v :: vs, o, w, _, h => below_setCells vs (o + 1) w _ (h.setCell (p := ⟨g, o, none⟩) (Nat.le_refl _) v)
theorem size_setCells {g : Nat} : ∀ (vs : List Value) (o : Nat) (w : World), (w.setCells g o vs).heap.size = w.heap.size
  | [], _, _ => rfl
  | v :: vs, o, w => (size_setCells vs (o + 1) (w.setCell ⟨g, o, none⟩ v)).trans (by simp [World.setCell])

theorem mt_ending {e : Ending} {L : List (List Int)} {J Jx : List (List Int) → World → Prop} {A B : Prop} {w : World} (h : (e = .returned (.bool true) ∧ J ([] ++ L) w ∧ A) ∨ (e = .returned (.bool false) ∧ (∃ q, q <+: L ∧ Jx ([] ++ q) w) ∧ B)) : ∃ go : Bool, e = .returned (.bool go) ∧ ((go = true ∧ J L w) ∨ (go = false ∧ ∃ q, q <+: L ∧ Jx q w)) := by
  rcases h with ⟨rfl, h, _⟩ | ⟨rfl, h, _⟩
  · exact ⟨true, rfl, .inl ⟨rfl, h⟩⟩
  · exact ⟨false, rfl, .inr ⟨rfl, h⟩⟩

set_option maxRecDepth 100000 in
set_option maxHeartbeats 8000000 in
theorem mt_moves (d n0 Ab Bg Bm b off n c0 N H r : Nat) (es : List (Int × Int)) (ms : List Bool) (w0 : World) (hn0 : n0 ≤ w0.heap.size) (hA : w0.heap.size ≤ Ab)
    (hG : w0.heap[Bg]? = some (.cells #[.int .i64 N, .slice (some ⟨b, off, none⟩) n c0] 30 (0, 0))) (hM : w0.heap[Bm]? = some (.cells (metA ms) 117 (0, 0))) (g : IsG N es) (hn : es.length = n) (hb : b < n0) (hr : ReadsE w0 b off es)
    (hl : ms.length = 20) (hu : unmF ms N = 2 * r) (hH : N = 2 * H) (hrH : r ≤ H) :
    SeqMovesK Fence.wide (d + 1) Try.prog 147 #[.pointer (some ⟨Bm, 0, none⟩), .pointer (some ⟨Bg, 0, none⟩)] (fun (_ : List Int) => #[.slice (some ⟨Ab + 1, 0, none⟩) r H]) Ab (fun x W => OwnI W (Ab + 1) H x ∧ x.length = r ∧ Ab + 1 < W.heap.size) (KeptF n0 Ab) (KeptX Ab) (MvS Ab (Ab + 1) Ab)
      (fun ys => ys = mtF N es r [] ms) (fun pre => pre <+: mtF N es r [] ms) (3 ^ r) w0 := by
  intro l J Jx W hW hB hJ hJx hY h0
  subst hW
  have hN20 : N ≤ 20 := by have := g.1.1.2.1; omega
  have hN2 : 2 ≤ N := by have := g.1.1.1; omega
  have hGW := (hB.block Bg (Array.getElem?_eq_some_iff.1 hG).1).trans hG
  have hMW := (hB.block Bm (Array.getElem?_eq_some_iff.1 hM).1).trans hM
  have hBg : Bg < W.heap.size := (Array.getElem?_eq_some_iff.1 hGW).1
  have hBm : Bm < W.heap.size := (Array.getElem?_eq_some_iff.1 hMW).1
  have hg1 : W.cell? ⟨Bg, 0, none⟩ = some (.int .i64 N) := by simp [World.cell?, hGW]
  have hg2 : W.cell? ⟨Bg, 1, none⟩ = some (.slice (some ⟨b, off, none⟩) n c0) := by simp [World.cell?, hGW]
  have HMc := hid (fun i (hi : i < 20) => show W.cell? ⟨Bm, i, none⟩ = some (.bool (eL ms i)) from (cell_of_row W Bm i _ _ _ hMW).trans (metA_at hi))
  have hsz := hB.size
  have HGO := hid (goM_any n0 W.heap.size (W.heap.size + 1) W.heap.size l (3 ^ r) b off n c0 N r H es g hn hb (by omega) (by omega) (Nat.le_refl _) (by omega) hrH J Jx hJ hJx (fun m pre x W1 h1 h2 h3 h5 h4 => by
    obtain ⟨fn, tmps, assign, body, hy, hR⟩ := hY pre x W1 h1 ⟨h2, h3, h2.lt⟩ h4
    exact ⟨fn, tmps, assign, body, hy, ⟨hR.1, fun c cs _ => hR.2 c cs (fun d h => by cases h)⟩⟩))
  have HJ := hid hJ
  have HR := hid (hr.on hB)
  have Hl := hid hl
  have Hu := hid hu
  obtain ⟨i0, hi, hz0, hz1, hz2⟩ := info_parts infoInt
  have hmk0 : ∀ w', (Instr.makeSlice 44 (.int .i64 0) (.int .i64 H)).run Try.prog w' = .ok (.slice (some ⟨w'.heap.size, 0, none⟩) 0 H) (w'.alloc (.cells (madeCells (Value.int .i64 0).cells (H * 1)) 2)) := fun w' => by
    have h := run_makeSlice (P := Try.prog) w' 44 2 i0 (.int .i64 0) Try.underlying44 hi hz0 .i64 .i64 0 H (by omega) (by omega) (by rw [hz1]; omega) (by rw [hz2]; omega) (by omega)
    rw [hz1] at h
    simpa using h
  obtain ⟨ZC, hZC⟩ : ∃ ZC, ZC = madeCells (Value.int .i64 0).cells (H * 1) := ⟨_, rfl⟩
  have hmk : ∀ w', (Instr.makeSlice 44 (.int .i64 0) (.int .i64 H)).run Try.prog w' = .ok (.slice (some ⟨w'.heap.size, 0, none⟩) 0 H) (w'.alloc (.cells ZC 2)) := by rw [hZC]; exact hmk0
  have HZs := hid (show ZC.size = H by rw [hZC, size_madeCells, Nat.mul_one])
  obtain ⟨MA, hMA⟩ : ∃ MA, metA ms = MA := ⟨_, rfl⟩
  have hMAl : MA.toList = ms.map Value.bool := by rw [← hMA]; exact metA_list hl
  have hMAs : MA.size = 20 := by rw [← hMA]; rfl
  have hMAo : MA.all (·.oneCell') = true := by rw [← hMA]; simp [Value.oneCell']
  have HLd := hid (show W.rangeAt Bm 0 MA.toList from fun j v hj => by
    rw [← hMA, Array.getElem?_toList] at hj
    rw [Nat.zero_add]
    exact (cell_of_row W Bm j _ _ _ hMW).trans hj)
  have HSz := hid (show (Try.prog.info? 117).map (·.size) = some MA.toList.length by rw [Array.length_toList, hMAs]; kernel_rfl)
  have HSy := hid (show (Try.prog.info? 117).map (·.size) = some MA.size by rw [hMAs]; kernel_rfl)
  have HTh := hid (show (W.alloc (.cells #[.bool false, .bool false, .bool false, .bool false, .bool false, .bool false, .bool false, .bool false, .bool false, .bool false, .bool false, .bool false, .bool false, .bool false, .bool false, .bool false, .bool false, .bool false, .bool false, .bool false] 117)).there W.heap.size 0 MA.size from fun j hj => by
    rw [hMAs] at hj
    have h := own_marks W W.heap.size rfl
    rw [Nat.zero_add]
    exact ⟨by show (World.cell? (W.alloc (.cells (Array.replicate 20 (Value.bool false)) 117)) _).isSome = true; rw [h.cell hj]; rfl, h.free j⟩)
  have HAl := hid hMAo
  obtain ⟨w3, hw3⟩ : ∃ w3, (W.alloc (.cells #[.bool false, .bool false, .bool false, .bool false, .bool false, .bool false, .bool false, .bool false, .bool false, .bool false, .bool false, .bool false, .bool false, .bool false, .bool false, .bool false, .bool false, .bool false, .bool false, .bool false] 117)).setCells W.heap.size 0 MA.toList = w3 := ⟨_, rfl⟩
  have HW3 := hid hw3
  have HO3 := hid (show OwnV w3 W.heap.size ms by
    rw [← hw3, hMAl]
    have h := overB_own (g := W.heap.size) ms (List.replicate 20 false) 0 _ (by omega) (own_marks W W.heap.size rfl)
    rwa [overB_all (by simp) hl] at h)
  have HB3 := hid (show Below W.heap.size W w3 by rw [← hw3]; exact below_setCells _ _ _ _ (on_alloc _ _))
  have HZ3 := hid (show w3.heap.size = W.heap.size + 1 by rw [← hw3, size_setCells]; simp)
  clear hw3 hMA hMAl hMAs hMAo
  clear hmk0 hZC hi hn hr g hJ hJx hY hG hM hGW hMW hl hu
  refine callsIn_wide.2 ?_
  go_enter Try.func147, Try.ntmps147
  go_wp2_with (first
    | ((with_reducible refine wpList_load_mid (op := ⟨some 5, _, _, _, _, _⟩) rfl _ (.tmp 1) rfl Bm 0 rfl MA.toList _ HLd.out Try.underlying117 (by kernel_rfl) HSz.out ?_); rw [Array.toArray_toList])
    | (with_reducible refine wpList_store_mid (op := ⟨none, _, _, _, _, _⟩) rfl _ (.tmp 4) (.tmp 5) rfl W.heap.size 0 MA rfl rfl HTh.out HSy.out HAl.out ?_; rw [HW3.out]))
  simp only [Act.put]
  have hx1 := (HB3.out.cell (p := ⟨Bg, 0, none⟩) hBg).trans hg1
  have hx2 := (HB3.out.cell (p := ⟨Bg, 1, none⟩) hBg).trans hg2
  have hzB : Bg < w3.heap.size := by have := HZ3.out; omega
  have hmx : 0 < maxLen ∧ H ≤ maxLen := by unfold maxLen; omega
  have HMx := hid hmx
  have hq2 : IntKind.i64.wrap ((N : Int) / 2) = (H : Int) := by rw [show (N : Int) / 2 = (H : Int) by omega]; exact IntWalk.i64_in _ (by omega)
  clear hmx
  have HH := hid hH
  clear hH
  rw [← HZ3.out] at HGO
  have HC := hid (fun (w5 : World) (hB5 : Below w3.heap.size w3 w5) (hO5 : OwnI w5 w3.heap.size H []) => by
    have h := HGO.out r [] ms [] w5 (by simp) Hu.out ((HR.out.on HB3.out).on hB5) hO5 (HO3.out.on hB5) (HJ.out _ _ _ (HJ.out _ _ _ h0 (MvS.below HB3.out)) (MvS.below hB5)) (by simp)
    exact h)
  have hONil : ∀ w5 : World, OwnI (w5.alloc (.cells ZC 2)) w5.heap.size H [] := fun w5 => ⟨ZC, heap_alloc_new w5 _, HZs.out, by simp, HMx.out.2, fun i hi => by simp at hi⟩
  have HNil := hid hONil
  clear hONil hg1 hg2
  go_region_with (first
    | (go_at_call 148; refine (HC.out _ (by first | exact on_alloc _ _ | exact (on_alloc _ _).drew | exact (Below.refl _ _).drew.alloc (Nat.le_refl _) _) (by first | exact HNil.out _ | exact OwnI.keep (w' := World.drew _) (HNil.out _) rfl)).mono ?_; intro e' w7 h7; obtain ⟨go, he, h8⟩ := mt_ending (L := mtF N es r [] ms) (J := J) (Jx := Jx) h7; have H7 := hid h8; clear h7 h8; subst he; dsimp only))
  all_goals
    go_wp2
    go_end0
    rcases H7.out with ⟨_, h⟩ | ⟨_, q, hq, h⟩
    · exact ⟨⟨_, rfl⟩, .inl ⟨_, rfl, h⟩⟩
    · exact ⟨⟨_, rfl⟩, .inr ⟨q, hq, h⟩⟩

end Go.Proofs.Ythacpadadccioaa
