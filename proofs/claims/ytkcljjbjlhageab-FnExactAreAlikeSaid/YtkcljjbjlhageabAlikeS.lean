/- Colourings that are alike, in the model. -/
import Derived.Test.YtkcljjbjlhageabCodeA
import Derived.Test.YtkcljjbjlhageabSpecAt
import Derived.Test.YtkcljjbjlhageabAlikeA
import Derived.Deep.AppendLies
import Derived.Deep.DeepMust
import Derived.Deep.RegionHeld3
import Derived.Deep.DeepCutAuto
import Derived.BigQuiet
namespace Go.Proofs.Ytkcljjbjlhageab
open Go.RowKit

theorem take_step_int {xs ys : List Int} {n k : Nat} (hx : xs.length = n) (hy : ys.length = n) (hk : k < n) (h : xs.take k = ys.take k) (e : eI xs k = eI ys k) : xs.take (k + 1) = ys.take (k + 1) := by
  rw [take_int (by omega), take_int (by omega), h, e]
theorem ne_at {xs ys : List Int} {k : Nat} (h : eI xs k ≠ eI ys k) : (xs == ys) = false := beq_eq_false_iff_ne.2 (fun e => h (by rw [e]))

theorem OwnI.drew {w : World} {g cap : Nat} {xs : List Int} (h : OwnI w g cap xs) : OwnI w.drew g cap xs := h
theorem own_new3 (w : World) (g : Nat) (hg : g = w.heap.size) : OwnI (w.alloc (.cells #[.int .i64 0, .int .i64 0, .int .i64 0] 2)) g 3 [0, 0, 0] := by
  subst hg
  refine ⟨_, heap_alloc_new w _, rfl, Nat.le_refl _, by unfold maxLen; omega, fun i hi => ?_⟩
  have hi' : i < 3 := hi
  rcases (by omega : i = 0 ∨ i = 1 ∨ i = 2) with rfl | rfl | rfl <;> rfl
theorem own_new0 (w : World) (g : Nat) (hg : g = w.heap.size) : OwnI (w.alloc (.cells #[] 2)) g 0 [] := by
  subst hg
  exact ⟨_, heap_alloc_new w _, rfl, Nat.le_refl _, by unfold maxLen; omega, fun i hi => by simp at hi⟩

set_option maxRecDepth 100000 in
set_option maxHeartbeats 2000000 in
theorem sSame_cells (b off b' off' n c d : Nat) (xs ys : List Int) (w : World) (hx : xs.length = n) (hy : ys.length = n) (hn : n ≤ 9223372036854775807) (hr : ReadsI w b off xs) (hs : ReadsI w b' off' ys) :
    Calls Try.prog 64 #[.slice (some ⟨b, off, none⟩) n c, .slice (some ⟨b', off', none⟩) n d] w fun e w' => e = .returned (.bool (xs == ys)) ∧ Below w.heap.size w w' := by
  have Hx := hid hx
  have Hy := hid hy
  have Hr := hid hr
  have Hs := hid hs
  clear hx hy hr hs
  go_enter Try.func64, Try.ntmps64
  go_wp2
  go_loopw [5] (fun i wr => ∃ k : Nat, k ≤ n ∧ i = .int .i64 k ∧ Hid (xs.take k = ys.take k) ∧ Below w.heap.size w wr) (fun i _ => n - (intOf i).toNat)
  case atStart => exact ⟨0, Nat.zero_le _, rfl, hid rfl, Below.refl _ _⟩
  case round =>
    obtain ⟨k, hk, rfl, hE, hB⟩ := hrel
    by_cases hlt : k < n
    · have hbb : b < w.heap.size := Hr.out.lt (by have := Hx.out; omega)
      have hbb' : b' < w.heap.size := Hs.out.lt (by have := Hy.out; omega)
      have hc1 := Hr.out.on hB k (by have := Hx.out; omega)
      have hc3 := Hs.out.on hB k (by have := Hy.out; omega)
      by_cases hh : eI xs k = eI ys k
      · have HH := hid hh
        have g1 : (eI xs k != eI ys k) = false := by simpa using hh
        clear hh
        go_wp2
        go_quiet (fail)
        go_wp2
        go_roundw
        case rel => exact ⟨k + 1, by omega, by go_num, hid (take_step_int Hx.out Hy.out hlt hE.out HH.out), by simp only [bdn]; exact hB⟩
        case measure => simp [intOf]; omega
      · have HH := hid hh
        have g1 : (eI xs k != eI ys k) = true := by simpa using hh
        clear hh
        go_wp2
        go_quiet (fail)
        go_wp2
        go_ret
        exact ⟨by rw [ne_at HH.out]; rfl, by simp only [bdn]; exact hB⟩
    · go_wp2
      go_ret
      obtain rfl : k = n := by omega
      have h := hE.out
      rw [List.take_of_length_le (by have := Hx.out; omega), List.take_of_length_le (by have := Hy.out; omega)] at h
      exact ⟨by rw [h]; simp, hB⟩

theorem sees_some {w : World} {q : Option Addr} {xs : List Int} {n : Nat} (hl : xs.length = n) (h0 : 0 < n) (h : SeesI w q xs) : ∃ b o, q = some ⟨b, o, none⟩ ∧ ReadsI w b o xs := by
  rcases h with rfl | h
  · simp at hl; omega
  · exact h

theorem sSame_sees (p q : Option Addr) (n c d : Nat) (xs ys : List Int) (w : World) (hx : xs.length = n) (hy : ys.length = n) (h0 : 0 < n) (hn : n ≤ 9223372036854775807) (hr : SeesI w p xs) (hs : SeesI w q ys) :
    Calls Try.prog 64 #[.slice p n c, .slice q n d] w fun e w' => e = .returned (.bool (xs == ys)) ∧ Below w.heap.size w w' := by
  obtain ⟨b, o, rfl, h1⟩ := sees_some hx h0 hr
  obtain ⟨b', o', rfl, h2⟩ := sees_some hy h0 hs
  exact sSame_cells b o b' o' n c d xs ys w hx hy hn h1 h2

set_option maxRecDepth 100000 in
set_option maxHeartbeats 4000000 in
theorem sMade_cols (s : Int) (b off n c cb co d : Nat) (es : List (Int × Int)) (cs : List Int) (w : World) (hn : es.length = n) (hr : ReadsE w b off es) (hl : cs.length = n) (hrc : ReadsI w cb co cs) (g : IsG s es) (gc : isColP es cs) :
    Calls Try.prog 65 #[.agg #[.int .i64 s, .slice (some ⟨b, off, none⟩) n c], .slice (some ⟨cb, co, none⟩) n d] w fun e w' => ∃ q cap, e = .returned (.slice q n cap) ∧ FreshI w.heap.size w' q n cap (normL cs) ∧ Below w.heap.size w w' := by
  have hn30 : n ≤ 30 := by have := isG_len g; omega
  have hn3 : 3 ≤ n := by have := three_le g; omega
  have Hn := hid hn
  have Hr := hid hr
  have Hl := hid hl
  have Hrc := hid hrc
  have G := hid g
  have Gc := hid gc
  obtain ⟨i0, hi, hz0, hz1, hz2⟩ := info_parts infoInt
  have Hi := hid hi
  have hmk : ∀ w : World, (Instr.makeSlice 25 (.int .i64 3) (.int .i64 3)).run Try.prog w = .ok (.slice (some ⟨w.heap.size, 0, none⟩) 3 3) (w.alloc (.cells #[.int .i64 0, .int .i64 0, .int .i64 0] 2)) := fun _ => by kernel_rfl
  have hAt := atF_first g
  have HAt := hid hAt
  clear hn hr hl hrc g gc hi hAt
  go_enter Try.func65, Try.ntmps65
  have hX0 : Box (w.alloc (.cells #[.int .i64 s, .slice (some ⟨b, off, none⟩) n c] 31)) w.heap.size s (some ⟨b, off, none⟩) n c := Box.new w s (some ⟨b, off, none⟩) n c 31
  go_upto_region 1 with fail
  obtain ⟨w1, hw1⟩ : ∃ w1 : World, w1 = w.alloc (.cells #[.int .i64 s, .slice (some ⟨b, off, none⟩) n c] 31) := ⟨_, rfl⟩
  rw [← hw1] at hX0 ⊢
  have HB1 : Hid (Below w.heap.size w w1) := hid (by rw [hw1]; exact on_alloc _ _)
  have hs1 : Hid (w1.heap.size = w.heap.size + 1) := hid (by rw [hw1]; simp)
  have HX0 := hid hX0
  clear hw1 hX0
  have hx0 := HX0.out.1
  have hy0 := HX0.out.2
  have hz0' := HX0.out.lt
  go_cut [5, 6, 7] (fun u v x wx => ∃ (qa : Option Addr) (ca gi go : Nat), u = .slice qa 3 ca ∧ v = .slice (some ⟨gi, 0, none⟩) 3 3 ∧ x = .slice (some ⟨go, 0, none⟩) 0 0 ∧ Hid (FreshI w1.heap.size wx qa 3 ca [0, 1, 2] ∧ (some gi ≠ (Value.slice qa 3 ca).ownBlock) ∧ OwnI wx gi 3 [0, 0, 0] ∧ OwnI wx go 0 [] ∧ gi ≠ go ∧ w1.heap.size ≤ gi ∧ w1.heap.size ≤ go ∧ Below w1.heap.size w1 wx))
  case first =>
    go_region_held3 (fun w' => w'.cell? ⟨w.heap.size, 0, none⟩ = some (.int .i64 s) ∧ w'.cell? ⟨w.heap.size, 1, none⟩ = some (.slice (some ⟨b, off, none⟩) n c))
      (go_keep)
      (first
        | (go_at_call 94; refine (sAt_any s 0 b off n c es _ Hn.out hn30 ?_).mono ?_; (exact (Hr.out.on HB1.out).on (by have := Below.refl w1.heap.size w1; go_grown)); rw [HAt.out]; rintro e' wa ⟨qa, ca, rfl, hfa, hba⟩; have HFA := hid hfa; have hBA : Below w1.heap.size w1 wa := bfrom (by have := Below.refl w1.heap.size w1; go_grown) hba; obtain ⟨ha1, ha2⟩ := HX0.out.on hBA))
    all_goals
      go_wp2_with fail
      go_meet
      have hsA := hBA.size
      have hsW := hba.size
      (try simp only [drew_size] at hsW)
      (try simp only [World.size_alloc] at hsW)
      have hFO := fun g h => HFA.out.own (g := g) h
      (try simp only [drew_size] at hFO)
      (try simp only [World.size_alloc] at hFO)
      have hFL := HFA.out.less (B' := w1.heap.size) (by (try simp only [drew_size]); (try simp only [World.size_alloc]); omega)
      refine ⟨qa, ca, _, _, rfl, rfl, rfl, hid ⟨?_, ?_, ?_, ?_, ?_, ?_, ?_, ?_⟩⟩
      · first
          | exact hFL
          | exact hFL.on (on_alloc _ _)
          | exact (hFL.on (on_alloc _ _)).on (on_alloc _ _)
      · exact sep_box hFO (by omega)
      · first
          | exact own_new3 _ _ (by simp)
          | exact OwnI.alloc (own_new3 _ _ (by simp)) _
          | exact OwnI.on (OwnI.drew (own_new3 _ _ (by simp))) hba
          | exact OwnI.on (OwnI.drew (OwnI.alloc (own_new3 _ _ (by simp)) _)) hba
          | exact OwnI.alloc (OwnI.on (OwnI.drew (own_new3 _ _ (by simp))) hba) _
      · first
          | exact own_new0 _ _ (by simp)
          | exact OwnI.alloc (own_new0 _ _ (by simp)) _
          | exact OwnI.on (OwnI.drew (own_new0 _ _ (by simp))) hba
          | exact OwnI.on (OwnI.drew (OwnI.alloc (own_new0 _ _ (by simp)) _)) hba
          | exact OwnI.alloc (OwnI.on (OwnI.drew (own_new0 _ _ (by simp))) hba) _
      · omega
      · omega
      · omega
      · first
          | exact hBA
          | exact hBA.alloc hBA.size _
          | exact (hBA.alloc hBA.size _).alloc (by simp only [World.size_alloc]; omega) _
  case rest =>
  obtain ⟨qa, ca, gi, go, rfl, rfl, rfl, hcc⟩ := hcut
  obtain ⟨w2, rfl⟩ : ∃ w2, w2 = wc := ⟨_, rfl⟩
  obtain ⟨hF, hgq, hO3, hO0, hne, hg1, hg2, hB2⟩ := hcc.out
  have hglt := hO3.lt
  have hgolt := hO0.lt
  have HF := hid hF
  have Hgq := hid hgq
  have HO3 := hid hO3
  have HO0 := hid hO0
  have HB2 := hid hB2
  clear hcc hF hgq hO3 hO0 hB2 hx0 hy0 hz0'
  go_wp2
  go_loopw [8] (fun ii wr => ∃ i : Nat, i ≤ 3 ∧ ii = .int .i64 i ∧ Hid (OwnI wr gi 3 (nameL cs i)) ∧ Hid (w2.grownBy wr (some gi))) (fun ii _ => 3 - (intOf ii).toNat)
  case atStart => exact ⟨0, by omega, rfl, HO3, hid (World.grownBy.refl _ _)⟩
  case round =>
    obtain ⟨i, hi, rfl, hN, hG⟩ := hrel
    have hbw : Hid (Below w.heap.size w wr) := hid (bfrom HB1.out ((HB2.out.grown hG.out (by omega) (fun k e => by cases e; omega))))
    have hsz : w2.heap.size ≤ wr.heap.size := hG.out.size
    by_cases hlt : i < 3
    · have hFr := HF.out.kept hG.out (.inr (fun e => Hgq.out e.symm))
      obtain ⟨qg, rfl, hq1, hq2⟩ : ∃ qg, qa = some ⟨qg, 0, none⟩ ∧ qg < wr.heap.size ∧ ReadsI wr qg 0 [0, 1, 2] := by
        rcases hFr.form with ⟨_, h, _⟩ | ⟨g, rfl, _, h⟩
        · omega
        · exact ⟨g, rfl, h.lt, h.reads⟩
      have hc1 := hq2 i hlt
      rw [Nat.zero_add, show eI [0, 1, 2] i = (i : Int) by rcases (by omega : i = 0 ∨ i = 1 ∨ i = 2) with rfl | rfl | rfl <;> rfl] at hc1
      have hcb : cb < wr.heap.size := (Hrc.out.on hbw.out).lt (by have := Hl.out; omega)
      have hcc := Hrc.out.on hbw.out i (by have := Hl.out; omega)
      have gco := (Gc.out.2 i (by have := Hn.out; omega)).1
      obtain ⟨C, hC1⟩ : ∃ C : Nat, eI cs i = C := ⟨_, (Int.toNat_of_nonneg gco.1).symm⟩
      have hC3 : C < 3 := by omega
      have hC3' : (C : Int) < 3 := by omega
      rw [hC1] at hcc
      have HC1 := hid hC1
      have hfz := hN.out.free C
      have hgz := hN.out.lt
      have hi3 : (i : Int) < 3 := by omega
      have hin : (i : Int) < (n : Int) := by omega
      have hcell := hN.out.reads C (by rw [nameL_length]; exact hC3)
      rw [Nat.zero_add] at hcell
      clear hC1 gco hFr hq2
      go_wp2
      go_roundw
      case rel =>
        refine ⟨i + 1, by omega, by go_num, hid ?_, hid (gset hG.out _ _)⟩
        have h := OwnI.set hN.out (k := C) (by rw [nameL_length]; exact hC3) (i : Int)
        rw [nameL, HC1.out]
        exact h
      case measure => simp [intOf]; omega
    · have hi3 : Hid (i = 3) := hid (by omega)
      have g3 : decide ((i : Int) < 3) = false := by simp; omega
      have HOg := hid (HO0.out.keep (hG.out.block go hgolt (fun e => hne (by simpa using e.symm))))
      obtain ⟨wk, rfl⟩ : ∃ wk : World, wk = wr := ⟨_, rfl⟩
      go_wp2
      go_loopw [7, 9] (fun x ee wr => ∃ (e cap : Nat) (q : Option Addr), e ≤ n ∧ x = .slice q e cap ∧ ee = .int .i64 e ∧ Hid (wr.ownsRow (w.heap.size + 1) 2 1 (.slice q e cap) e (intVals (normU cs e)) ∧ some gi ≠ (Value.slice q e cap).ownBlock) ∧ Hid (OwnI wr gi 3 (nameL cs 3)) ∧ Hid (Below w.heap.size w wr)) (fun _ ee _ => n - (intOf ee).toNat)
      case atStart => exact ⟨0, 0, _, Nat.zero_le _, rfl, rfl, hid ⟨HOg.out.row (n := 0) rfl (by have := hs1.out; omega), by simpa [Value.ownBlock] using hne⟩, hid (hi3.out ▸ hN.out), hbw⟩
      case round =>
        obtain ⟨e, cap, q, he, rfl, rfl, hO, hN2, hB⟩ := hrel
        clear hbw hsz
        by_cases hle : e < n
        · have hcb : cb < wr.heap.size := (Hrc.out.on hB.out).lt (by have := Hl.out; omega)
          have hcc := Hrc.out.on hB.out e (by have := Hl.out; omega)
          have gco := (Gc.out.2 e (by have := Hn.out; omega)).1
          obtain ⟨C, hC1⟩ : ∃ C : Nat, eI cs e = C := ⟨_, (Int.toNat_of_nonneg gco.1).symm⟩
          have hC3 : C < 3 := by omega
          have hC3' : (C : Int) < 3 := by omega
          rw [hC1] at hcc
          have htk := hid (normU_step (by have := Hl.out; omega) hC1)
          have hgz := hN2.out.lt
          have hcell := hN2.out.reads C (by rw [nameL_length]; exact hC3)
          rw [Nat.zero_add] at hcell
          obtain ⟨z, hz⟩ : ∃ z, eI (nameL cs 3) C = z := ⟨_, rfl⟩
          rw [hz] at hcell
          have HZ := hid hz
          have hl63 : e + 1 ≤ 31 := by omega
          have hw1 : w.heap.size + 1 ≤ wr.heap.size := by have := hB.out.size; have := hs1.out; have := hg1; omega
          obtain ⟨wo, rfl⟩ : ∃ wo : World, wo = wr := ⟨_, rfl⟩
          clear hC1 gco hz
          go_wp2_with (at_builtin; go_must (refine wpList_append_lies _ rfl (.tmp 34) (.tmp 42) 25 rfl (w.heap.size + 1) 2 i0 (.int .i64 0) 1 8 Try.underlying25 Hi.out hz0 hz1 hz2 rfl (by decide) (.slice q e cap) e _ rfl (hO.out.1.alloc _) ⟨wo.heap.size, 0, none⟩ 1 1 [.int .i64 z] rfl rfl (World.news_of_block (cs := #[.int .i64 z]) (t := 2) (fr := (0, 0)) (heap_alloc_new wo _)) (by simp [Value.oneCell']) (by decide) (by unfold maxLen; omega) (by omega) (by simp; omega) (wo.heap.size + 1) (by simp) ?_); intro g cap' w1 hown1 hgrow1 hlie hg1; have Hown := hid hown1; have Hgrow := hid hgrow1; have Hlie := hid hlie; clear hown1 hgrow1 hlie)
          have hrow : ∀ j, (Value.slice q e cap).ownBlock = some j → w.heap.size + 1 ≤ j ∧ j < wo.heap.size := hO.out.1.lt
          go_roundw
          case rel =>
            refine ⟨e + 1, cap', some ⟨g, 0, none⟩, by omega, rfl, by go_num, hid ⟨?_, ?_⟩, hid ?_, hid ?_⟩
            · rw [htk.out, intVals_append, HZ.out]; exact Hown.out
            · intro h
              have h' : gi = g := by simpa [Value.ownBlock] using h
              rcases Hlie.out with h2 | h2
              · exact hO.out.2 (by rw [h2, h'])
              · have := hN2.out.lt; omega
            · exact (hN2.out.alloc _).keep (Hgrow.out.block gi (by simp; omega) (fun h => hO.out.2 h))
            · exact (hB.out.alloc hB.out.size _).grown Hgrow.out (by simp; omega) (fun j hj => by have := (hrow j hj).1; omega)
          case measure => simp [intOf]; omega
        · obtain rfl : e = n := by omega
          go_wp2
          go_ret
          have he : normU cs e = normL cs := by unfold normL; rw [Hl.out]
          have ho := hO.out.1
          rw [he] at ho
          exact ⟨q, cap, rfl, FreshI.less ⟨ho, by rw [← he]; exact normU_length (by have := Hl.out; omega)⟩ (by omega), hB.out⟩

end Go.Proofs.Ytkcljjbjlhageab
