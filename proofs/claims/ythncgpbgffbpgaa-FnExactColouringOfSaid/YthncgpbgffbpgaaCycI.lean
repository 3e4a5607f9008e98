/- The cycles that a matching leaves, ranged over in the program: what the function that is ranged over owes. -/
import Derived.Test.YthncgpbgffbpgaaTakeB
import Derived.Test.YthncgpbgffbpgaaTailIn
namespace Go.Proofs.Ythncgpbgffbpgaa
open Go.RowKit Go.Shelf

attribute [local go_sem] Oper.semAt_some

attribute [local irreducible] wpStill
theorem infoBz : (Try.prog.info? 4).map (fun i => (i.zero, i.size, i.bytes)) = some (some (.bool false), 1, 1) := by kernel_rfl
theorem own_falses (w : World) (g N : Nat) (hg : g = w.heap.size) (hN : N ≤ 30) : OwnB (w.alloc (.cells (madeCells (Value.bool false).cells (N * 1)) 4)) g N (List.replicate N false) := by
  subst hg
  refine ⟨_, heap_alloc_new w _, by rw [size_madeCells, Nat.mul_one], by simp, by unfold maxLen; omega, fun i hi => ?_⟩
  have hi' : i < N := by simpa using hi
  rw [eL_lt (by simpa using hi')]
  simp [madeCells, hi', Value.cells, Nat.mod_one]

/-- A cycle that is handed on: where it lies, its capacity, its edges. -/
abbrev CyX := Option Addr × Nat × List Int
abbrev encC (x : CyX) : Array Value := #[.slice x.1 x.2.2.length x.2.1]
def XC (n A : Nat) (x : CyX) (W : World) : Prop := SeesI W x.1 x.2.2 ∧ (∀ gx ox, x.1 = some ⟨gx, ox, none⟩ → A ≤ gx) ∧ x.2.2.length ≤ n ∧ ∀ i, i < x.2.2.length → ∃ f : Nat, eI x.2.2 i = f ∧ f < n
theorem cyL_edgesI {s : Int} {es : List (Int × Int)} {ok : Nat → Bool} {nx : Int → Nat → Nat} (G : TwoG s es ok nx) {e : Nat} (hl : leadC es ok nx e = true) {i : Nat} (hi : i < (cyL es nx e).length) : ∃ f : Nat, eI (cyL es nx e) i = f ∧ f < es.length := by
  have he : ok e = true := by
    unfold leadC at hl
    rw [Bool.and_eq_true] at hl
    exact hl.1
  have hm : eI (cyL es nx e) i ∈ cyL es nx e := by rw [eI_lt hi]; exact List.getElem_mem hi
  have hf : ∃ f : Nat, eI (cyL es nx e) i = f := by
    unfold cyL cyP at hm ⊢
    obtain ⟨j, _, hj⟩ := List.mem_map.1 hm
    exact ⟨_, hj.symm⟩
  obtain ⟨f, hf⟩ := hf
  rw [hf] at hm
  exact ⟨f, hf, G.lt f (((cyL_mem G he).1 hm) (fun f => ok f = true) he (fun _ _ _ _ _ hy _ _ => hy))⟩
theorem fresh_from {B A n cap : Nat} {w : World} {q : Option Addr} {xs : List Int} (h : FreshI B w q n cap xs) (hA : A ≤ B) : ∀ gx ox, q = some ⟨gx, ox, none⟩ → A ≤ gx := by
  intro gx ox e
  rcases h.form with ⟨h1, _⟩ | ⟨g', h1, hg', _⟩
  · rw [h1] at e
    cases e
  · rw [h1] at e
    simp only [Option.some.injEq, Addr.mk.injEq] at e
    omega
theorem cyL_lenI {s : Int} {es : List (Int × Int)} {ok : Nat → Bool} {nx : Int → Nat → Nat} {n : Nat} (G : TwoG s es ok nx) {e : Nat} (hl : leadC es ok nx e = true) (hn : es.length = n) : (cyL es nx e).length ≤ n := by
  have he : ok e = true := by
    unfold leadC at hl
    rw [Bool.and_eq_true] at hl
    exact hl.1
  have h := (cyK_spec G he).2.1
  unfold cyL
  rw [cyP_len]
  omega
/-- The marks of a list's first edges. -/
def tsL (es : List (Int × Int)) (xs : List Int) (i : Nat) : List Bool := (List.range es.length).map fun (f : Nat) => decide ((f : Int) ∈ xs.take i)
theorem tsL_len (es : List (Int × Int)) (xs : List Int) (i : Nat) : (tsL es xs i).length = es.length := by simp [tsL]
theorem tsL_at {es : List (Int × Int)} {xs : List Int} {i f : Nat} (hf : f < es.length) : eL (tsL es xs i) f = decide ((f : Int) ∈ xs.take i) := by
  unfold tsL
  rw [eL_lt (by simpa using hf)]
  simp
theorem tsL_zero (es : List (Int × Int)) (xs : List Int) : tsL es xs 0 = List.replicate es.length false := by
  refine bools_ext (by simp [tsL]) fun f hf => ?_
  rw [tsL_len] at hf
  rw [tsL_at hf, eL_lt (by simpa using hf)]
  simp
theorem tsL_step {es : List (Int × Int)} {xs : List Int} {i X : Nat} (hi : i < xs.length) (hX : eI xs i = X) (hXl : X < es.length) : (tsL es xs i).set X true = tsL es xs (i + 1) := by
  refine bools_ext (by rw [List.length_set, tsL_len, tsL_len]) fun f hf => ?_
  rw [List.length_set, tsL_len] at hf
  rw [eL_set (by rw [tsL_len]; exact hXl), tsL_at hf, tsL_at hf, List.take_add_one, List.getElem?_eq_getElem hi]
  have hxi : xs[i] = (X : Int) := by rw [← eI_lt hi]; exact hX
  by_cases e : f = X
  · subst e
    rw [if_pos rfl]
    simp [hxi]
  · rw [if_neg e]
    have : ¬ (f : Int) = (X : Int) := by omega
    simp [hxi, this]
theorem tsL_end (es : List (Int × Int)) (xs : List Int) {i : Nat} (hi : xs.length ≤ i) : tsL es xs i = tkL es (freeB es xs) (nxF es xs) 0 := by
  refine bools_ext (by rw [tsL_len, tkL_len]) fun f hf => ?_
  rw [tsL_len] at hf
  rw [tsL_at hf, tkL_at hf, List.take_of_length_le hi]
  unfold freeB metC
  rw [decide_eq_true hf]
  simp

theorem cyU_lt {es : List (Int × Int)} {ok : Nat → Bool} {nx : Int → Nat → Nat} {k m : Nat} (hk : k < m) (h : leadC es ok nx k = true) : (cyU es ok nx k).length < (cyU es ok nx m).length := by
  have h2 : ∀ j, k + 1 + j ≤ m → (cyU es ok nx (k + 1)).length ≤ (cyU es ok nx (k + 1 + j)).length := by
    intro j
    induction j with
    | zero => intro _; exact Nat.le_refl _
    | succ j ih =>
      intro hj
      have h3 := ih (by omega)
      cases h4 : leadC es ok nx (k + 1 + j)
      · rw [show k + 1 + (j + 1) = k + 1 + j + 1 by omega, cyU_no h4]; exact h3
      · rw [show k + 1 + (j + 1) = k + 1 + j + 1 by omega, cyU_yes h4, List.length_append]; omega
  have h5 := h2 (m - (k + 1)) (by omega)
  rw [show k + 1 + (m - (k + 1)) = m by omega, cyU_yes h, List.length_append] at h5
  simp at h5
  omega
theorem len_of_map {xs : List CyX} {ys : List (List Int)} (h : xs.map (fun x => x.2.2) = ys) : xs.length = ys.length := by rw [← h, List.length_map]

set_option maxRecDepth 100000 in
set_option maxHeartbeats 16000000 in
theorem cycles_moves (d n0 Ab Bg Bl N b off n c m f0 : Nat) (ps : Option Addr) (es : List (Int × Int)) (xs : List Int) (w0 : World) (hn0 : n0 ≤ w0.heap.size) (hA : w0.heap.size ≤ Ab) (hBg : Bg < w0.heap.size) (hBl : Bl < w0.heap.size)
    (hn : es.length = n) (hb : b < n0) (hr : ReadsE w0 b off es) (g : IsG N es) (hx : xs.length = m) (hm9 : m ≤ 1048576) (hrx : SeesI w0 ps xs) (hmt : isMatP N es xs)
    (hG1 : w0.cell? ⟨Bg, 0, none⟩ = some (.int .i64 N)) (hG2 : w0.cell? ⟨Bg, 1, none⟩ = some (.slice (some ⟨b, off, none⟩) n c)) (hL1 : w0.cell? ⟨Bl, 0, none⟩ = some (.slice ps m f0)) :
    SeqMoves Fence.wide (d + 1) Try.prog 41 #[.pointer (some ⟨Bg, 0, none⟩), .pointer (some ⟨Bl, 0, none⟩)] encC Ab (XC n Ab) (Kept (fun i => i < n0 ∨ i = Bg ∨ i = Ab)) (Kept (fun i => i ≠ Ab))
      (fun ys => ys.map (fun x => x.2.2) = cyU es (freeB es xs) (nxF es xs) n) (fun pre => ∃ k, k ≤ n ∧ pre.map (fun x => x.2.2) = cyU es (freeB es xs) (nxF es xs) k) (cyU es (freeB es xs) (nxF es xs) n).length w0 := by
  intro l J Jx W hW hB hJ hJx hY h0
  subst hW
  have hn30 : n ≤ 30 := by have := isG_len g; omega
  have T := hid (twoF g hmt)
  have HMt := hid hmt
  obtain ⟨ok, hok⟩ : ∃ ok, ok = freeB es xs := ⟨_, rfl⟩
  obtain ⟨nx, hnx⟩ : ∃ nx, nx = nxF es xs := ⟨_, rfl⟩
  have hts : ∀ i, xs.length ≤ i → tsL es xs i = tkL es (freeB es xs) (nxF es xs) 0 := fun i hi => tsL_end es xs hi
  rw [← hok, ← hnx] at T hY hts ⊢
  have HTs := hid hts
  have Hn := hid hn
  have Hr := hid (hr.on hB)
  have Hx := hid hx
  have Hrx := hid (hrx.on hB)
  have HJ := hid hJ
  have HJx := hid hJx
  have HY := hid (show ∀ pre x W1, J pre W1 → XC n W.heap.size x W1 → pre.length < (cyU es ok nx n).length → YieldAt Fence.wide d Try.prog l (encC x) W1 fun e W' => (e = .returned (.bool true) ∧ J (pre ++ [x]) W' ∧ Kept (fun i => i < n0 ∨ i = Bg ∨ i = W.heap.size) W1 W') ∨ (e = .returned (.bool false) ∧ Jx (pre ++ [x]) W') from hY)
  have g1 := (hB.cell (p := ⟨Bg, 0, none⟩) hBg).trans hG1
  have g2 := (hB.cell (p := ⟨Bg, 1, none⟩) hBg).trans hG2
  have l1 := (hB.cell (p := ⟨Bl, 0, none⟩) hBl).trans hL1
  have HG1 := hid g1
  have HG2 := hid g2
  have hsz := hB.size
  have hBgW : Bg < W.heap.size := by omega
  have hBlW : Bl < W.heap.size := by omega
  have hbW : b < W.heap.size := by omega
  obtain ⟨i0, hi, hz0, hz1, hz2⟩ := info_parts infoBz
  have hmk0 : ∀ w', (Instr.makeSlice 58 (.int .i64 n) (.int .i64 n)).run Try.prog w' = .ok (.slice (some ⟨w'.heap.size, 0, none⟩) n n) (w'.alloc (.cells (madeCells (Value.bool false).cells (n * 1)) 4)) := fun w' => by
    have h := run_makeSlice (P := Try.prog) w' 58 4 i0 (.bool false) Try.underlying58 hi hz0 .i64 .i64 n n (by omega) (Int.le_refl _) (by rw [hz1]; omega) (by rw [hz2]; omega) (by omega)
    rw [hz1] at h
    simpa using h
  obtain ⟨ZC, hZC⟩ : ∃ ZC, ZC = madeCells (Value.bool false).cells (n * 1) := ⟨_, rfl⟩
  have HZ := hid (show OwnB (W.alloc (.cells ZC 4)) W.heap.size n (List.replicate n false) by rw [hZC]; exact own_falses W _ n rfl hn30)
  have hmk : ∀ w', (Instr.makeSlice 58 (.int .i64 n) (.int .i64 n)).run Try.prog w' = .ok (.slice (some ⟨w'.heap.size, 0, none⟩) n n) (w'.alloc (.cells ZC 4)) := by rw [hZC]; exact hmk0
  clear hn hr hx hrx hmt hok hnx hts hJ hJx hY hG1 hG2 hL1 hi hmk0 hZC
  refine callsIn_of_wp Try.func41 rfl trivial ?_ rfl
  simp only [Try.ntmps41, List.size_toArray, List.length_cons, List.length_nil, Nat.reduceAdd, Nat.reduceSub, Array.replicate_succ, Array.replicate_zero, List.push_toArray, List.append_toArray, List.nil_append, List.cons_append]
  gi_wp2
  gi_loopw [14] (fun i wr => ∃ i' : Nat, i' ≤ m ∧ i = .int .i64 i' ∧ Hid (OwnB wr W.heap.size n (tsL es xs i')) ∧ Hid (Below W.heap.size W wr)) (fun i _ => m - (intOf i).toNat)
  case atStart => exact ⟨0, Nat.zero_le _, rfl, hid (by rw [tsL_zero, Hn.out]; exact HZ.out), hid (on_alloc _ _)⟩
  case round =>
    obtain ⟨i, hi, rfl, hC, hBi⟩ := hrel
    by_cases hlt : i < m
    · obtain ⟨sb, so, rfl, hrd⟩ : ∃ sb so, ps = some ⟨sb, so, none⟩ ∧ ReadsI W sb so xs := by
        rcases Hrx.out with h | h
        · have := Hx.out; rw [h] at this; simp at this; omega
        · exact h
      have hix : i < xs.length := by have := Hx.out; omega
      have hc1 := (hrd.on hBi.out) i hix
      have hsb := (hrd.on hBi.out).lt (show 0 < xs.length by omega)
      obtain ⟨X, hX, hXl⟩ := mat_at HMt.out hix
      rw [hX] at hc1
      have hXn : X < n := by have := Hn.out; omega
      have hXn' : (X : Int) < (n : Int) := by omega
      have hcX := hC.out.cell (i := X) (by rw [tsL_len]; exact hXl)
      have hfX := hC.out.free X
      have hgz := hC.out.lt
      have HX := hid (And.intro hX hXl)
      clear hrd hX hXl
      gi_wp2
      go_roundw
      case rel => exact ⟨i + 1, by omega, by go_num, hid (by rw [← tsL_step hix HX.out.1 HX.out.2]; exact OwnB.set hC.out (by rw [tsL_len]; exact HX.out.2) true), hid (hBi.out.setCell (p := ⟨W.heap.size, X, none⟩) (Nat.le_refl _) _)⟩
      case measure => simp [intOf]; omega
    · have him := hid (show xs.length ≤ i by have := Hx.out; omega)
      have HC := hid (show OwnB wr W.heap.size n (tkL es ok nx 0) by rw [← HTs.out i him.out]; exact hC.out)
      have HJ0 := hid (HJ.out [] W wr h0 ((Kept.refl _ W).call hBi.out))
      have HK0 := hid (show Kept (fun i => i < n0 ∨ i = Bg) W wr from (Kept.refl _ W).call hBi.out)
      have hgz0 := HC.out.lt
      clear hC hBi
      obtain ⟨w4, rfl⟩ : ∃ w4 : World, w4 = wr := ⟨_, rfl⟩
      gi_wp2
      gi_loopw [24] (fun i wr => ∃ (k : Nat) (pre : List CyX), k ≤ n ∧ i = .int .i64 k ∧ Hid (J pre wr ∧ pre.map (fun x => x.2.2) = cyU es ok nx k) ∧ Hid (OwnB wr W.heap.size n (tkL es ok nx k)) ∧ Hid (Kept (fun i => i < n0 ∨ i = Bg) W wr)) (fun i _ => n - (intOf i).toNat)
      case atStart => exact ⟨0, [], Nat.zero_le _, rfl, hid ⟨HJ0.out, rfl⟩, HC, HK0⟩
      case round =>
        obtain ⟨k, pre, hk, rfl, hP, hC, hKp⟩ := hrel
        clear HJ0 HC HK0
        have hszr := hKp.out.size
        by_cases hltk : k < n
        · have hkl : k < es.length := by have := Hn.out; omega
          have hkn' : (k : Int) < (n : Int) := by omega
          have hcT := hC.out.cell (i := k) (by rw [tkL_len]; exact hkl)
          have hgT := hC.out.lt
          have hld := tkL_lead (ok := ok) (nx := nx) hkl
          obtain ⟨a, ha⟩ : ∃ a, eL (tkL es ok nx k) k = a := ⟨_, rfl⟩
          rw [ha] at hcT hld
          have hgr1 := (World.cell?_of_block (w := W) (a := ⟨Bg, 0, none⟩) (hKp.out.same Bg (.inr rfl) hBgW)).trans HG1.out
          have hgr2 := (World.cell?_of_block (w := W) (a := ⟨Bg, 1, none⟩) (hKp.out.same Bg (.inr rfl) hBgW)).trans HG2.out
          have HRr := hid (Hr.out.keep (hKp.out.same b (.inl hb) hbW))
          have hc1 := (HRr.out k hkl).1
          have hBgr : Bg < wr.heap.size := by omega
          have hbr : b < wr.heap.size := by omega
          clear ha
          cases a
          · have HLd := hid (show leadC es ok nx k = true from hld.symm)
            clear hld
            obtain ⟨wo, rfl⟩ : ∃ wo : World, wo = wr := ⟨_, rfl⟩
            have hbT : b ≠ W.heap.size := by omega
            gi_wp2
            gi_region_with (first
              | (refine hR'.out.mono ?_
                 intro e W3 h3
                 obtain ⟨go, rfl, h3⟩ : ∃ go, e = .returned (.bool go) ∧ ((go = true ∧ J (pre ++ [(q, cap, cyL es nx k)]) W3 ∧ Kept (fun i => i < n0 ∨ i = Bg ∨ i = W.heap.size) w2 W3) ∨ (go = false ∧ Jx (pre ++ [(q, cap, cyL es nx k)]) W3)) := by
                   rcases h3 with ⟨rfl, h⟩ | ⟨rfl, h⟩
                   · exact ⟨true, rfl, .inl ⟨rfl, h⟩⟩
                   · exact ⟨false, rfl, .inr ⟨rfl, h⟩⟩
                 have H3 := hid h3
                 clear h3
                 dsimp only
                 gi_wp2)
              | (refine ⟨trivial, ?_⟩
                 gi_at_call 42
                 refine (callsIn_wide.2 (iTake_any N b off n c W.heap.size k es ok nx wo.drew Hn.out hbr hbT (HRr.out.on (Below.refl _ _).drew) T.out HLd.out (hC.out.on (Below.refl _ _).drew))).mono ?_
                 rintro e w2 ⟨q, cap, rfl, hF, hO2, hK2⟩
                 have hJ2 := HJ.out pre wo w2 hP.out.1 ⟨hK2.os, hK2.tape, hK2.output, hK2.size, fun i hi hl => hK2.same i ⟨hl, hi⟩ hl⟩
                 have HK2 := hid (show Kept (fun i => i < n0 ∨ i = Bg) W w2 from hKp.out.trans ⟨hK2.os, hK2.tape, hK2.output, hK2.size, fun i hi hl => hK2.same i ⟨hl, by omega⟩ hl⟩)
                 have HO2 := hid hO2
                 obtain ⟨fn, tmps, assign, body, hy, hR⟩ := HY.out pre (q, cap, cyL es nx k) w2 hJ2 ⟨hF.sees, fresh_from hF (by have h8 := hKp.out.size; have h9 : wo.drew.heap.size = wo.heap.size := rfl; omega), cyL_lenI T.out HLd.out Hn.out, fun i hi => by have h := cyL_edgesI T.out HLd.out hi; rwa [Hn.out] at h⟩ (by rw [len_of_map hP.out.2]; exact cyU_lt hltk HLd.out)
                 dsimp only [encC] at hy
                 have hR' := hid hR
                 clear hR hJ2 hF hO2 hK2
                 dsimp only
                 gi_wp2))
            all_goals
              cases go
              · have hJx3 : Jx (pre ++ [(q, cap, cyL es nx k)]) W3 := by
                  rcases H3.out with ⟨h, _⟩ | ⟨_, h⟩
                  · cases h
                  · exact h
                have HJx3 := hid hJx3
                clear hJx3 H3
                gi_wp2
                refine bodyPost_ret (results_none rfl _ _ _) rfl ?_
                exact ⟨⟨_, rfl⟩, .inr ⟨_, ⟨k + 1, by omega, (by rw [List.map_append, hP.out.2, cyU_yes HLd.out]; rfl)⟩, HJx3.out⟩⟩
              · have h3 : J (pre ++ [(q, cap, cyL es nx k)]) W3 ∧ Kept (fun i => i < n0 ∨ i = Bg ∨ i = W.heap.size) w2 W3 := by
                  rcases H3.out with ⟨_, h⟩ | ⟨h, _⟩
                  · exact h
                  · cases h
                have HJ3 := hid h3.1
                have HK3 := hid h3.2
                clear h3 H3
                gi_wp2
                go_roundw
                case rel => exact ⟨k + 1, _, by omega, by go_num, hid ⟨HJ3.out, by rw [List.map_append, hP.out.2, cyU_yes HLd.out]; rfl⟩, hid (HO2.out.keep (HK3.out.same W.heap.size (.inr (.inr rfl)) HO2.out.lt)), hid (HK2.out.trans (HK3.out.mono fun i h => by rcases h with h | h; exact .inl h; exact .inr (.inl h)))⟩
                case measure => simp [intOf]; omega
          · have HLd := hid (show leadC es ok nx k = false from hld.symm)
            clear hld
            obtain ⟨wo, rfl⟩ : ∃ wo : World, wo = wr := ⟨_, rfl⟩
            gi_wp2
            refine region_tail_wide 18 (by kernel_rfl) (by kernel_rfl) ?_
            simp only [List.take_succ_cons, List.take_zero, List.drop_succ_cons, List.drop_zero]
            still_step
            still_step
            still_step
            still_step
            still_step
            still_step
            still_step
            still_step
            still_step
            still_step
            still_step
            still_step
            still_step
            still_step
            still_step
            still_step
            still_step
            still_step
            refine wpStill_nil ?_
            gi_wp2
            go_roundw
            case rel => exact ⟨k + 1, pre, by omega, by go_num, hid ⟨HJ.out pre wo wo.drew hP.out.1 ((Kept.refl _ _).call (Below.refl _ _).drew), by rw [cyU_no HLd.out]; exact hP.out.2⟩, hid (by rw [tkL_old T.out HLd.out]; exact hC.out.on (Below.refl _ _).drew), hid (hKp.out.call (Below.refl _ _).drew)⟩
            case measure => simp [intOf]; omega
        · obtain rfl : k = n := by omega
          gi_wp2
          go_end0
          exact ⟨⟨_, rfl⟩, .inl ⟨pre, hP.out.2, hP.out.1⟩⟩

end Go.Proofs.Ythncgpbgffbpgaa
