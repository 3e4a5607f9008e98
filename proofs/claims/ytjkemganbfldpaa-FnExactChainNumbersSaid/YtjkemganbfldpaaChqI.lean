/- The chains of two colours, ranged over in the program: what the function that is ranged over owes. -/
import Derived.Test.YtjkemganbfldpaaChqA
import Derived.Test.YtjkemganbfldpaaChnI
import Derived.Test.YtjkemganbfldpaaMovesN
import Derived.Test.YtjkemganbfldpaaRowsM
import Derived.Test.YtjkemganbfldpaaTailIn
namespace Go.Proofs.Ytjkemganbfldpaa
open Go.RowKit Go.Shelf

attribute [local go_sem] Oper.semAt_some

theorem infoBq : (Try.prog.info? 4).map (fun i => (i.zero, i.size, i.bytes)) = some (some (.bool false), 1, 1) := by kernel_rfl
theorem own_falsesQ (w : World) (g N : Nat) (hg : g = w.heap.size) (hN : N ≤ 30) : OwnB (w.alloc (.cells (madeCells (Value.bool false).cells (N * 1)) 4)) g N (List.replicate N false) := by
  subst hg
  refine ⟨_, heap_alloc_new w _, by rw [size_madeCells, Nat.mul_one], by simp, by unfold maxLen; omega, fun i hi => ?_⟩
  have hi' : i < N := by simpa using hi
  rw [eL_lt (by simpa using hi')]
  simp [madeCells, hi', Value.cells, Nat.mod_one]

/-- A chain that is handed on: where it lies, its capacity, its edges. -/
abbrev ChX := Option Addr × Nat × List Int
abbrev encQ (x : ChX) : Array Value := #[.slice x.1 x.2.2.length x.2.1]
def XQ (n A : Nat) (x : ChX) (W : World) : Prop := SeesI W x.1 x.2.2 ∧ (∀ gx ox, x.1 = some ⟨gx, ox, none⟩ → A ≤ gx) ∧ x.2.2.length ≤ n ∧ ∀ i, i < x.2.2.length → ∃ f : Nat, eI x.2.2 i = f ∧ f < n
/-- The chains of the first k edges. -/
def chqC (es : List (Int × Int)) (cs : List Int) (a b : Int) (n k : Nat) : List (List Int) := (chqE es cs a b k).map fun e => chU es cs (a + b) e n
theorem chqC_len (es : List (Int × Int)) (cs : List Int) (a b : Int) (n k : Nat) : (chqC es cs a b n k).length = (chqE es cs a b k).length := by unfold chqC; rw [List.length_map]
theorem len_of_mapQ {xs : List ChX} {ys : List (List Int)} (h : xs.map (fun x => x.2.2) = ys) : xs.length = ys.length := by rw [← h, List.length_map]
theorem chU_entry {es : List (Int × Int)} {cs : List Int} {d : Int} {e n i : Nat} (hi : i < (chU es cs d e n).length) : ∃ f : Nat, eI (chU es cs d e n) i = f ∧ f < n := by
  have hm : eI (chU es cs d e n) i ∈ chU es cs d e n := by rw [eI_lt hi]; exact List.getElem_mem hi
  have hf : ∃ f : Nat, eI (chU es cs d e n) i = f := by
    unfold chU at hm ⊢
    obtain ⟨j, _, hj⟩ := List.mem_map.1 hm
    exact ⟨_, hj.symm⟩
  obtain ⟨f, hf⟩ := hf
  rw [hf] at hm
  exact ⟨f, hf, (chU_mem.1 hm).1⟩
theorem fresh_fromQ {B A n cap : Nat} {w : World} {q : Option Addr} {xs : List Int} (h : FreshI B w q n cap xs) (hA : A ≤ B) : ∀ gx ox, q = some ⟨gx, ox, none⟩ → A ≤ gx := by
  intro gx ox e
  rcases h.form with ⟨h1, _⟩ | ⟨g', h1, hg', _⟩
  · rw [h1] at e
    cases e
  · rw [h1] at e
    simp only [Option.some.injEq, Addr.mk.injEq] at e
    omega

set_option maxRecDepth 100000 in
set_option maxHeartbeats 16000000 in
theorem chains_moves (d n0 Ab Bc Ba Bg Bb b off n c cb co f0 : Nat) (s : Int) (a bb : Nat) (es : List (Int × Int)) (cs : List Int) (w0 : World) (hn0 : n0 ≤ w0.heap.size) (hA : w0.heap.size ≤ Ab) (hBc : Bc < w0.heap.size) (hBa : Ba < w0.heap.size) (hBg : Bg < w0.heap.size) (hBb : Bb < w0.heap.size)
    (hn : es.length = n) (hb : b < n0) (hcb : cb < n0) (hr : ReadsE w0 b off es) (hl : cs.length = n) (hrc : ReadsI w0 cb co cs) (g : IsG s es) (gc : isColP es cs) (hab : a < bb) (hb3 : bb < 3)
    (hC1 : w0.cell? ⟨Bc, 0, none⟩ = some (.slice (some ⟨cb, co, none⟩) n f0)) (hA1 : w0.cell? ⟨Ba, 0, none⟩ = some (.int .i64 a)) (hG1 : w0.cell? ⟨Bg, 0, none⟩ = some (.int .i64 s)) (hG2 : w0.cell? ⟨Bg, 1, none⟩ = some (.slice (some ⟨b, off, none⟩) n c)) (hB1 : w0.cell? ⟨Bb, 0, none⟩ = some (.int .i64 bb)) :
    SeqMoves Fence.wide (d + 1) Try.prog 30 #[.pointer (some ⟨Bc, 0, none⟩), .pointer (some ⟨Ba, 0, none⟩), .pointer (some ⟨Bg, 0, none⟩), .pointer (some ⟨Bb, 0, none⟩)] encQ Ab (XQ n Ab) (Kept (fun i => i < n0 ∨ i = Bc ∨ i = Ba ∨ i = Bg ∨ i = Bb ∨ i = Ab)) (Kept (fun i => i ≠ Ab))
      (fun ys => ys.map (fun x => x.2.2) = chqC es cs a bb n n) (fun pre => ∃ k, k ≤ n ∧ pre.map (fun x => x.2.2) = chqC es cs a bb n k) (chqE es cs a bb n).length w0 := by
  intro l J Jx W hW hB hJ hJx hY h0
  subst hW
  have hn30 : n ≤ 30 := by have := isG_len g; omega
  have G := hid g
  have Gc := hid gc
  have Hn := hid hn
  have Hl := hid hl
  have Hr := hid (hr.on hB)
  have Hrc := hid (hrc.on hB)
  have HJ := hid hJ
  have HJx := hid hJx
  have HY := hid hY
  have g1 := (hB.cell (p := ⟨Bc, 0, none⟩) hBc).trans hC1
  have HC1 := hid g1
  have HA1 := hid ((hB.cell (p := ⟨Ba, 0, none⟩) hBa).trans hA1)
  have HG1 := hid ((hB.cell (p := ⟨Bg, 0, none⟩) hBg).trans hG1)
  have HG2 := hid ((hB.cell (p := ⟨Bg, 1, none⟩) hBg).trans hG2)
  have HB1 := hid ((hB.cell (p := ⟨Bb, 0, none⟩) hBb).trans hB1)
  have hsz := hB.size
  have hBcW : Bc < W.heap.size := by omega
  have hBaW : Ba < W.heap.size := by omega
  have hBgW : Bg < W.heap.size := by omega
  have hBbW : Bb < W.heap.size := by omega
  have hbW : b < W.heap.size := by omega
  have hcbW : cb < W.heap.size := by omega
  obtain ⟨i0, hi, hz0, hz1, hz2⟩ := info_parts infoBq
  have hmk0 : ∀ w', (Instr.makeSlice 41 (.int .i64 n) (.int .i64 n)).run Try.prog w' = .ok (.slice (some ⟨w'.heap.size, 0, none⟩) n n) (w'.alloc (.cells (madeCells (Value.bool false).cells (n * 1)) 4)) := fun w' => by
    have h := run_makeSlice (P := Try.prog) w' 41 4 i0 (.bool false) Try.underlying41 hi hz0 .i64 .i64 n n (by omega) (Int.le_refl _) (by rw [hz1]; omega) (by rw [hz2]; omega) (by omega)
    rw [hz1] at h
    simpa using h
  obtain ⟨ZC, hZC⟩ : ∃ ZC, ZC = madeCells (Value.bool false).cells (n * 1) := ⟨_, rfl⟩
  have HZ := hid (show OwnB (W.alloc (.cells ZC 4)) W.heap.size n (List.replicate n false) by rw [hZC]; exact own_falsesQ W _ n rfl hn30)
  have hmk : ∀ w', (Instr.makeSlice 41 (.int .i64 n) (.int .i64 n)).run Try.prog w' = .ok (.slice (some ⟨w'.heap.size, 0, none⟩) n n) (w'.alloc (.cells ZC 4)) := by rw [hZC]; exact hmk0
  clear hn hr hl hrc hJ hJx hY hC1 hA1 hG1 hG2 hB1 hi hmk0 hZC g gc
  refine callsIn_of_wp Try.func30 rfl trivial ?_ rfl
  simp only [Try.ntmps30, List.size_toArray, List.length_cons, List.length_nil, Nat.reduceAdd, Nat.reduceSub, Array.replicate_succ, Array.replicate_zero, List.push_toArray, List.append_toArray, List.nil_append, List.cons_append]
  gi_wp2
  gi_loopw [17] (fun i wr => ∃ (k : Nat) (pre : List ChX), k ≤ n ∧ i = .int .i64 k ∧ Hid (J pre wr ∧ pre.map (fun x => x.2.2) = chqC es cs a bb n k) ∧ Hid (OwnB wr W.heap.size n (chqM es cs a bb k)) ∧ Hid (Kept (fun i => i < n0 ∨ i = Bc ∨ i = Ba ∨ i = Bg ∨ i = Bb) W wr)) (fun i _ => n - (intOf i).toNat)
  case atStart => exact ⟨0, [], Nat.zero_le _, rfl, hid ⟨HJ.out [] W _ h0 ((Kept.refl _ W).call (on_alloc _ _)), rfl⟩, hid (by rw [chqM_zero, Hn.out]; exact HZ.out), hid ((Kept.refl _ W).call (on_alloc _ _))⟩
  case round =>
    obtain ⟨k, pre, hk, rfl, hP, hC, hKp⟩ := hrel
    clear HZ g1
    have hszr := hKp.out.size
    by_cases hltk : k < n
    · have hkl : k < es.length := by have := Hn.out; omega
      have hkn' : (k : Int) < (n : Int) := by omega
      have hcM := hC.out.cell (i := k) (by rw [chqM_len]; exact hkl)
      have hgM := hC.out.lt
      have hr1 := (World.cell?_of_block (w := W) (a := ⟨Bc, 0, none⟩) (hKp.out.same Bc (.inr (.inl rfl)) hBcW)).trans HC1.out
      have hr2 := (World.cell?_of_block (w := W) (a := ⟨Ba, 0, none⟩) (hKp.out.same Ba (.inr (.inr (.inl rfl))) hBaW)).trans HA1.out
      have hr3 := (World.cell?_of_block (w := W) (a := ⟨Bg, 0, none⟩) (hKp.out.same Bg (.inr (.inr (.inr (.inl rfl)))) hBgW)).trans HG1.out
      have hr4 := (World.cell?_of_block (w := W) (a := ⟨Bg, 1, none⟩) (hKp.out.same Bg (.inr (.inr (.inr (.inl rfl)))) hBgW)).trans HG2.out
      have hr5 := (World.cell?_of_block (w := W) (a := ⟨Bb, 0, none⟩) (hKp.out.same Bb (.inr (.inr (.inr (.inr rfl)))) hBbW)).trans HB1.out
      have HRr := hid (Hr.out.keep (hKp.out.same b (.inl hb) hbW))
      have HRc := hid (Hrc.out.keep (hKp.out.same cb (.inl hcb) hcbW))
      have hck := HRc.out k (by have := Hl.out; omega)
      have hBcr : Bc < wr.heap.size := by omega
      have hBar : Ba < wr.heap.size := by omega
      have hBgr : Bg < wr.heap.size := by omega
      have hBbr : Bb < wr.heap.size := by omega
      have hbr : b < wr.heap.size := by omega
      have hcbr : cb < wr.heap.size := by omega
      obtain ⟨x, hx⟩ : ∃ x, eI cs k = x := ⟨_, rfl⟩
      obtain ⟨y, hy⟩ : ∃ y, eL (chqM es cs a bb k) k = y := ⟨_, rfl⟩
      rw [hx] at hck
      rw [hy] at hcM
      obtain ⟨wo, rfl⟩ : ∃ wo : World, wo = wr := ⟨_, rfl⟩
      by_cases hxa : x = a
      · subst hxa
        have HXE := hid hx
        have HYE := hid hy
        clear hx hy
        cases y
        · obtain ⟨CH, hCH⟩ : ∃ CH, chU es cs (a + bb) k n = CH := ⟨_, rfl⟩
          have hCl : CH.length ≤ n := by rw [← hCH]; exact chU_len _ _ _ _ _
          have HCE := hid (show ∀ i, i < CH.length → ∃ f : Nat, eI CH i = f ∧ f < n from fun i hi => by rw [← hCH] at hi ⊢; exact chU_entry hi)
          have HCH := hid hCH
          have HCC := hid (show chqC es cs a bb n (k + 1) = chqC es cs a bb n k ++ [CH] by unfold chqC; rw [chqE_yes HXE.out HYE.out, List.map_append, ← hCH]; rfl)
          have HME := hid (show mkM (chqM es cs a bb k) CH CH.length = chqM es cs a bb (k + 1) by
            rw [chqM_yes HXE.out HYE.out, ← hCH, ← Hn.out]
            exact mkM_end (chqM_len _ _ _) (Nat.le_refl _))
          clear hCH
          gi_wp2_with (refine ⟨trivial, ?_⟩; gi_at_call 31; refine (callsIn_wide.2 (iChain_any s b off n c cb co n f0 k bb es cs wo Hn.out HRr.out Hl.out HRc.out rfl (chG_of G.out Gc.out hkl HXE.out (by omega) (by omega)))).mono ?_; rw [HXE.out, HCH.out]; rintro e w2 ⟨q, cap, rfl, hF2, hb2⟩)
          have HJ2 := hid (HJ.out pre wo w2 hP.out.1 ((Kept.refl _ wo).call hb2))
          have HF2 := hid hF2
          have HC2 := hid (show OwnB w2 W.heap.size n (mkM (chqM es cs a bb k) CH 0) by rw [mkM_zero]; exact hC.out.on hb2)
          have HK2 := hid (hKp.out.call hb2)
          have hwo2 := hb2.size
          clear hF2 hb2 hr1 hr2 hr3 hr4 hr5 hck hcM
          gi_wp2
          gi_loopw [38] (fun i wr => ∃ (j : Nat), j ≤ CH.length ∧ i = .int .i64 j ∧ Hid (J pre wr) ∧ Hid (FreshI wo.heap.size wr q CH.length cap CH) ∧ Hid (OwnB wr W.heap.size n (mkM (chqM es cs a bb k) CH j)) ∧ Hid (Kept (fun i => i < n0 ∨ i = Bc ∨ i = Ba ∨ i = Bg ∨ i = Bb) W wr)) (fun i _ => CH.length - (intOf i).toNat)
          case atStart => exact ⟨0, Nat.zero_le _, rfl, HJ2, HF2, HC2, HK2⟩
          case round =>
            obtain ⟨j, hj, rfl, hJ3, hF3, hC3, hK3⟩ := hrel
            clear HJ2 HF2 HC2 HK2
            have hsz3 := hK3.out.size
            by_cases hltj : j < CH.length
            · obtain ⟨gq, rfl, hgq, hoq⟩ : ∃ gq, q = some ⟨gq, 0, none⟩ ∧ wo.heap.size ≤ gq ∧ OwnI wr gq cap CH := by
                rcases hF3.out.form with ⟨_, h0, _⟩ | h
                · omega
                · exact h
              have hcj := hoq.reads j hltj
              rw [Nat.zero_add] at hcj
              have hgql := hoq.lt
              obtain ⟨X, hX, hXn⟩ := HCE.out j hltj
              rw [hX] at hcj
              have HX := hid hX
              have hXn' : (X : Int) < (n : Int) := by omega
              have hj' : (j : Int) < (CH.length : Int) := by omega
              have hXm : X < (chqM es cs a bb k).length := by rw [chqM_len]; have := Hn.out; omega
              have hcX := hC3.out.cell (i := X) (by rw [mkM_len]; exact hXm)
              have hfX := hC3.out.free X
              have hgl := hC3.out.lt
              clear hX hoq
              gi_wp2
              go_roundw
              case rel => exact ⟨j + 1, by omega, by go_num, hid (HJ.out pre _ _ hJ3.out ((Kept.refl _ _).set (by simp) _)), hid (hF3.out.far (by show W.heap.size < wo.heap.size; omega) _), hid (by rw [← mkM_step hltj HX.out hXm]; exact hC3.out.set (by rw [mkM_len]; exact hXm) true), hid (hK3.out.set (by simp only; omega) _)⟩
              case measure => simp [intOf]; omega
            · obtain rfl : j = CH.length := by omega
              have HC4 := hid (show OwnB wr W.heap.size n (chqM es cs a bb (k + 1)) by rw [← HME.out]; exact hC3.out)
              have hgl := HC4.out.lt
              obtain ⟨fn, tmps, assign, body, hy, hR⟩ := HY.out pre (q, cap, CH) wr hJ3.out ⟨hF3.out.sees, fresh_fromQ hF3.out (by omega), hCl, HCE.out⟩ (by rw [len_of_mapQ hP.out.2, chqC_len]; exact chqE_lt hltk HXE.out HYE.out)
              dsimp only [encQ] at hy
              have hR' := hid hR
              clear hR
              gi_wp2
              refine hR'.out.mono ?_
              rintro e W3 (⟨rfl, hJ5, hK5⟩ | ⟨rfl, hJx5⟩)
              · have HJ5 := hid hJ5
                have HK5 := hid hK5
                clear hJ5 hK5
                gi_wp2
                go_roundw
                case rel => exact ⟨k + 1, _, by omega, by go_num, hid ⟨HJ5.out, by rw [List.map_append, hP.out.2, HCC.out]; rfl⟩, hid (HC4.out.keep (HK5.out.same W.heap.size (.inr (.inr (.inr (.inr (.inr rfl))))) hgl)), hid (hK3.out.trans (HK5.out.mono fun i h => by rcases h with h | h | h | h | h <;> simp [h]))⟩
                case measure => simp [intOf]; omega
              · gi_wp2
                refine bodyPost_ret (results_none rfl _ _ _) rfl ?_
                exact ⟨⟨_, rfl⟩, .inr ⟨_, ⟨k + 1, by omega, by rw [List.map_append, hP.out.2, HCC.out]; rfl⟩, hJx5⟩⟩
        · have hno : ¬ (eI cs k = (a : Int) ∧ eL (chqM es cs a bb k) k = false) := fun h => by rw [HYE.out] at h; exact absurd h.2 (by simp)
          have HNE := hid (show chqC es cs a bb n (k + 1) = chqC es cs a bb n k by unfold chqC; rw [chqE_no hno])
          have HNM := hid (chqM_no hno)
          clear hno
          gi_wp2
          go_roundw
          case rel => exact ⟨k + 1, pre, by omega, by go_num, hid ⟨hP.out.1, by rw [HNE.out]; exact hP.out.2⟩, hid (by rw [HNM.out]; exact hC.out), hKp⟩
          case measure => simp [intOf]; omega
      · have t1 : (x != (a : Int)) = true := by simpa using hxa
        have hno : ¬ (eI cs k = (a : Int) ∧ eL (chqM es cs a bb k) k = false) := fun h => hxa (by rw [← hx]; exact h.1)
        have HNE := hid (show chqC es cs a bb n (k + 1) = chqC es cs a bb n k by unfold chqC; rw [chqE_no hno])
        have HNM := hid (chqM_no hno)
        clear hno hxa hx hy
        gi_wp2
        go_roundw
        case rel => exact ⟨k + 1, pre, by omega, by go_num, hid ⟨hP.out.1, by rw [HNE.out]; exact hP.out.2⟩, hid (by rw [HNM.out]; exact hC.out), hKp⟩
        case measure => simp [intOf]; omega
    · obtain rfl : k = n := by omega
      gi_wp2
      go_end0
      exact ⟨⟨_, rfl⟩, .inl ⟨_, hP.out.2, hP.out.1⟩⟩

end Go.Proofs.Ytjkemganbfldpaa
