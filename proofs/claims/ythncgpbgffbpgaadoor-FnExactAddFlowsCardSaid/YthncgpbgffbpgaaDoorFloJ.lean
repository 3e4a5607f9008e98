/- Flows in the program: the kinds of values, and the sums that must be equal. -/
import Derived.Test.YthncgpbgffbpgaaDoorFloI
import Derived.WalkLawsBesides
import Derived.BigRegion
import Derived.Defers
import Derived.Recover
import Derived.BigQuiet
namespace Go.Proofs.YthncgpbgffbpgaaDoor
open Go.RowKit

/-- A function value that tells what a sum stands for. -/
def StandsAt (w : World) (G : FuncId) (lb : Array Value) (z : Int → Int) : Prop :=
  ∀ W, Below w.heap.size w W → ∀ x : Int, -60000 ≤ x → x ≤ 60000 → Calls Tryd.prog G (#[.int .i64 x] ++ lb) W fun e w' => e = .returned (.int .i64 (z x)) ∧ Below W.heap.size W w'
theorem StandsAt.on {w w' : World} {G : FuncId} {lb : Array Value} {z : Int → Int} (h : StandsAt w G lb z) (hb : Below w.heap.size w w') : StandsAt w' G lb z := fun W hW x h1 h2 => h W (bfrom hb hW) x h1 h2

def stM (m x : Int) : Int := (x.tmod m + m) % m
theorem stM_zero {m x : Int} : stM m x = 0 ↔ x.tmod m = 0 := by
  unfold stM
  rw [← Int.dvd_iff_emod_eq_zero, ← Int.dvd_iff_tmod_eq_zero]
  have h : x = m * x.tdiv m + x.tmod m := (Int.mul_tdiv_add_tmod x m).symm
  constructor
  · intro h1
    have h2 : m ∣ x.tmod m := by have := Int.dvd_sub h1 (Int.dvd_refl m); rwa [Int.add_sub_cancel] at this
    rw [h]
    exact Int.dvd_add (Int.dvd_mul_right _ _) h2
  · intro h1
    have h2 : m ∣ x.tmod m := by
      have h3 : x.tmod m = x - m * x.tdiv m := by omega
      rw [h3]
      exact Int.dvd_sub h1 (Int.dvd_mul_right _ _)
    exact Int.dvd_add h2 (Int.dvd_refl m)

set_option maxRecDepth 100000 in
set_option maxHeartbeats 2000000 in
theorem iMod_stands (w : World) (B : Nat) (m : Int) (hm : 2 ≤ m ∧ m ≤ 6) (hc : w.cell? ⟨B, 0, none⟩ = some (.int .i64 m)) : StandsAt w 43 #[.pointer (some ⟨B, 0, none⟩)] (stM m) := by
  intro W hW x h1 h2
  have hB := World.block_lt_of_cell? _ _ hc
  have hcW := ((bcells hW).1 _ _ hB).trans hc
  have hm0 : ¬ m = 0 := by omega
  have a1 := Int.tmod_lt_of_pos x (show 0 < m by omega)
  have a2 : -m < x.tmod m := by
    rcases Int.lt_or_le x 0 with h | h
    · have := Int.tmod_lt_of_pos (-x) (show 0 < m by omega)
      rw [Int.neg_tmod] at this
      omega
    · have := Int.tmod_nonneg m h
      omega
  have e1 : IntKind.i64.wrap (x.tmod m + m) = x.tmod m + m := IntWalk.i64_in _ (by omega)
  show Calls Tryd.prog 43 #[.int .i64 x, .pointer (some ⟨B, 0, none⟩)] W _
  clear hc hW
  go_enter Tryd.func43, Tryd.ntmps43
  go_wp2
  go_quiet (fail)
  go_wp2
  go_ret
  exact ⟨rfl, bdn.mpr (Below.refl _ _)⟩

set_option maxRecDepth 100000 in
set_option maxHeartbeats 2000000 in
theorem iWhole_stands (w : World) : StandsAt w 46 #[] (fun x => x) := by
  intro W hW x h1 h2
  show Calls Tryd.prog 46 #[.int .i64 x] W _
  clear hW
  go_enter Tryd.func46, Tryd.ntmps46
  go_wp2
  go_ret
  exact ⟨rfl, Below.refl _ _⟩

theorem infoIr : (Tryd.prog.info? 2).map (fun i => (i.zero, i.size, i.bytes)) = some (some (.int .i64 0), 1, 8) := by kernel_rfl

set_option maxRecDepth 100000 in
set_option maxHeartbeats 8000000 in
theorem iReq_any (N b off n c f : Nat) (ps : Option Addr) (es : List (Int × Int)) (xs : List Int) (lo up : Int) (G : FuncId) (lb : Array Value) (z : Int → Int) (pa : Addr) (w : World) (hn : es.length = n) (hr : ReadsE w b off es) (hx : xs.length = n) (hrx : SeesI w ps xs) (g : IsG N es) (hv : ∀ i, i < xs.length → -1000 ≤ eI xs i ∧ eI xs i ≤ 1000)
    (hst : StandsAt w G lb z) (eg : ∀ args w, (callFunc G args).run Tryd.prog w = .ok (.enter G args) w) (hg : w.cell? ⟨0, 0, none⟩ = some (.iface 104 (.pointer (some pa)))) :
    Calls Tryd.prog 42 #[.agg #[.int .i64 N, .slice (some ⟨b, off, none⟩) n c], .slice ps n f, .agg #[.int .i64 lo, .int .i64 up, .func (.func G) #[] lb]] w fun e' w' => e' = (if flowP (fun x => decide (z x = 0)) N es xs then .returned (.tuple #[]) else .panicked [{ v := .iface 104 (.pointer (some pa)), recovered := false }]) ∧ Below w.heap.size w w' := by
  have Hn := hid hn
  have Hr := hid hr
  have Hx := hid hx
  have GG := hid g
  have HV := hid hv
  have HST := hid hst
  have hn30 : n ≤ 30 := by have := isG_len g; omega
  have hn3 : 0 < n := by have := g.1.1; unfold okSize at this; omega
  have hN3 : 2 ≤ N ∧ N ≤ 20 := by have := g.1.1.1; have := g.1.1.2.1; omega
  obtain ⟨sb, so, rfl, hrd⟩ : ∃ sb so, ps = some ⟨sb, so, none⟩ ∧ ReadsI w sb so xs := by
    rcases hrx with h | h
    · rw [h] at hx; simp at hx; omega
    · exact h
  have Hrd := hid hrd
  obtain ⟨hN3, hN4⟩ := hN3
  obtain ⟨j0, hj, hy0, hy1, hy2⟩ := info_parts infoIr
  have Hj := hid hj
  have hbb : b < w.heap.size := reads_lt hr (by omega)
  have hcb : sb < w.heap.size := hrd.lt (by omega)
  have hg0 := World.block_lt_of_cell? _ _ hg
  have HG := hid hg
  obtain ⟨r, hR⟩ : ∃ r, r = (if flowP (fun x => decide (z x = 0)) N es xs then Ending.returned (.tuple #[]) else .panicked [{ v := .iface 104 (.pointer (some pa)), recovered := false }]) := ⟨_, rfl⟩
  rw [← hR]
  have HR := hid hR
  clear hn hr hx hrd g hv hj hrx hst hg hR
  go_enter Tryd.func42, Tryd.ntmps42
  have HX2 := hid ((Box.new w (N : Int) (some ⟨b, off, none⟩) n c 31).on (on_alloc _ (.cells #[.int .i64 lo, .int .i64 up, .func (.func G) #[] lb] 52)))
  have HB2 := hid (show Below w.heap.size w ((w.alloc (.cells #[.int .i64 N, .slice (some ⟨b, off, none⟩) n c] 31)).alloc (.cells #[.int .i64 lo, .int .i64 up, .func (.func G) #[] lb] 52)) from bfrom (on_alloc _ _) (on_alloc _ _))
  have hk2 : ((w.alloc (.cells #[.int .i64 N, .slice (some ⟨b, off, none⟩) n c] 31)).alloc (.cells #[.int .i64 lo, .int .i64 up, .func (.func G) #[] lb] 52)).cell? ⟨w.heap.size + 1, 2, none⟩ = some (.func (.func G) #[] lb) := by simp
  have HK2 := hid hk2
  have HZ2 := hid (show ((w.alloc (.cells #[.int .i64 N, .slice (some ⟨b, off, none⟩) n c] 31)).alloc (.cells #[.int .i64 lo, .int .i64 up, .func (.func G) #[] lb] 52)).heap.size = w.heap.size + 2 by simp)
  clear hk2
  obtain ⟨w2, hw2⟩ : ∃ w2, w2 = (w.alloc (.cells #[.int .i64 N, .slice (some ⟨b, off, none⟩) n c] 31)).alloc (.cells #[.int .i64 lo, .int .i64 up, .func (.func G) #[] lb] 52) := ⟨_, rfl⟩
  rw [← hw2] at HX2 HB2 HK2 HZ2
  have hz2' := HX2.out.lt
  go_wp2_with (at_make; rw [← hw2]; clear hw2; refine wpList_make_full _ rfl _ _ 25 rfl w2.heap.size 2 j0 (.int .i64 0) 1 Tryd.underlying25 Hj.out hy0 hy1 _ _ _ _ N rfl rfl rfl rfl (by rw [hy2]; omega) (by unfold maxLen; omega) (Nat.le_refl _) ?_; intro w3 hown hgrow; have hB3 := (Below.refl w2.heap.size w2).grown hgrow (Nat.le_refl _) (fun k e => by cases e); have hX3 := HX2.out.on hB3; have hx3 := hX3.1; have hy3 := hX3.2; have hz3 := hX3.lt)
  have Ho := hid (OwnI.made hown)
  have Hb3 := hid hB3
  clear hown hgrow hB3 hX3 hx3 hy3 hz3
  go_loopw [17] (fun i wr => ∃ (i' : Nat), i' ≤ n ∧ i = .int .i64 i' ∧ Hid (OwnI wr w2.heap.size N (netL es xs N i')) ∧ Hid (Below w2.heap.size w2 wr)) (fun i _ => n - (intOf i).toNat)
  case atStart => exact ⟨0, Nat.zero_le _, rfl, hid (by rw [netL_zero]; exact Ho.out), Hb3⟩
  case round =>
    obtain ⟨i, hi, rfl, hO, hB⟩ := hrel
    clear Ho Hb3
    by_cases hlt : i < n
    · have HBw := hid (bfrom HB2.out hB.out)
      have hbe : b < wr.heap.size := by have := HBw.out.size; omega
      have hce : sb < wr.heap.size := by have := HBw.out.size; omega
      have hc1 := (Hr.out.on HBw.out i (by have := Hn.out; omega)).1
      have hc2 := (Hr.out.on HBw.out i (by have := Hn.out; omega)).2
      have hcc := Hrd.out.on HBw.out i (by have := Hx.out; omega)
      have hw2z : w.heap.size + 2 = w2.heap.size := HZ2.out.symm
      have hok := GG.out.1.2 i (by have := Hn.out; omega)
      obtain ⟨X, hX1⟩ : ∃ X : Nat, eA es i = X := ⟨_, (Int.toNat_of_nonneg hok.1).symm⟩
      obtain ⟨Y, hY1⟩ : ∃ Y : Nat, eB es i = Y := ⟨_, (Int.toNat_of_nonneg hok.2.2.1).symm⟩
      have hXN : X < N := by have := hok.2.1; omega
      have hYN : Y < N := by have := hok.2.2.2.1; omega
      have hXY : ¬ X = Y := by have := hok.2.2.2.2; omega
      have hYX : ¬ Y = X := fun e => hXY e.symm
      have hXN' : (X : Int) < (N : Int) := by omega
      have hYN' : (Y : Int) < (N : Int) := by omega
      rw [hX1] at hc1
      rw [hY1] at hc2
      have h1 := hO.out.cellI (i := X) (by rw [netL_len]; omega)
      have h2 := hO.out.cellI (i := Y) (by rw [netL_len]; omega)
      rw [netL_at hXN] at h1
      rw [netL_at hYN] at h2
      have f1 := hO.out.free X
      have f2 := hO.out.free Y
      have hgz := hO.out.lt
      obtain ⟨x, hxx⟩ : ∃ x, eI xs i = x := ⟨_, rfl⟩
      obtain ⟨a1, ha1⟩ : ∃ a1, netV es xs i X = a1 := ⟨_, rfl⟩
      obtain ⟨a2, ha2⟩ : ∃ a2, netV es xs i Y = a2 := ⟨_, rfl⟩
      have hv := HV.out i (by have := Hx.out; omega)
      have hn1 := netV_near (es := es) HV.out X i (by have := Hx.out; omega)
      have hn2 := netV_near (es := es) HV.out Y i (by have := Hx.out; omega)
      rw [hxx] at hcc hv
      rw [ha1] at h1 hn1
      rw [ha2] at h2 hn2
      have e1 : IntKind.i64.wrap (a2 + x) = a2 + x := IntWalk.i64_in _ (by omega)
      have e2 : IntKind.i64.wrap (a1 - x) = a1 - x := IntWalk.i64_in _ (by omega)
      have HS := hid (netL_step (N := N) (xs := xs) hX1 hY1 hXY hXN hYN)
      rw [ha1, ha2, hxx] at HS
      clear hX1 hY1 hok hv hn1 hn2 hxx ha1 ha2
      go_wp2
      go_region
      go_wp2
      go_region
      go_wp2
      go_roundw
      case rel =>
        refine ⟨i + 1, by omega, by go_num, hid ?_, hid ?_⟩
        · rw [← HS.out]
          exact OwnI.keep (w' := World.drew (World.drew _)) (OwnI.alloc (OwnI.set (OwnI.set hO.out (by rw [netL_len]; omega) _) (by rw [List.length_set, netL_len]; omega) _) _) rfl
        · exact ((hB.out.setCell (p := ⟨w2.heap.size, X, none⟩) (Nat.le_refl _) _).setCell (p := ⟨w2.heap.size, Y, none⟩) (Nat.le_refl _) _).alloc (by have := hB.out.size; simp; omega) _ |>.drew.drew
      case measure => simp [intOf]; omega
    · obtain rfl : i = n := by omega
      obtain ⟨wo, rfl⟩ : ∃ wo : World, wo = wr := ⟨_, rfl⟩
      have HO4 := hid hO.out
      have HB4 := hid (bfrom HB2.out hB.out)
      have hg2 : w2.heap.size < wo.heap.size := hO.out.lt
      clear hO
      go_wp2
      go_loopw [47] (fun iv wr => ∃ v : Nat, v ≤ N ∧ iv = .int .i64 v ∧ Hid (∀ u : Nat, u < v → z (netV es xs i u) = 0) ∧ Hid (Below wo.heap.size wo wr)) (fun iv _ => N - (intOf iv).toNat)
      case atStart => exact ⟨0, Nat.zero_le _, rfl, hid (fun u hu => by omega), hid (Below.refl _ _)⟩
      case round =>
        obtain ⟨v, hv, rfl, hD, hBv⟩ := hrel
        by_cases hlt2 : v < N
        · have HBw := hid (bfrom HB4.out hBv.out)
          have hcv := (HO4.out.on hBv.out).cellI (i := v) (by rw [netL_len]; omega)
          rw [netL_at hlt2] at hcv
          have hck := ((bcells (bfrom hB.out hBv.out)).1 _ _ (by have := HZ2.out; omega)).trans HK2.out
          have hcg := ((bcells HBw.out).1 _ _ hg0).trans HG.out
          have hnr := netV_near (es := es) HV.out v i (by have := Hx.out; omega)
          obtain ⟨y, hy⟩ : ∃ y, netV es xs i v = y := ⟨_, rfl⟩
          rw [hy] at hcv hnr
          have HY := hid hy
          obtain ⟨zz, hz⟩ : ∃ zz, z y = zz := ⟨_, rfl⟩
          have HZ := hid hz
          have hgv : w2.heap.size < wr.heap.size := by have := hBv.out.size; omega
          have hkz : w.heap.size + 1 < wr.heap.size := by have := HZ2.out; omega
          have h0z : 0 < wr.heap.size := by have := HBw.out.size; omega
          have hcall := HST.out wr HBw.out y (by omega) (by omega)
          rw [hz] at hcall
          have HCall := hid hcall
          clear hy hz hnr hcall
          obtain ⟨wi, rfl⟩ : ∃ wi : World, wi = wr := ⟨_, rfl⟩
          by_cases h0 : zz = 0
          · have h0' : (zz != 0) = false := by simpa using h0
            have H0 := hid h0
            clear h0
            go_wp2_with (refine HCall.out.mono ?_; rintro e' w5 ⟨rfl, hb5⟩)
            go_roundw
            case rel =>
              refine ⟨v + 1, by omega, by go_num, hid (fun u hu => ?_), hid (hBv.out.trans (hb5.mono hBv.out.size))⟩
              rcases Nat.lt_or_ge u v with h | h
              · exact hD.out u h
              · obtain rfl : u = v := by omega
                rw [HY.out, HZ.out]; exact H0.out
            case measure => simp [intOf]; omega
          · have h0' : (zz != 0) = true := by simpa using h0
            have H0 := hid h0
            clear h0
            go_wp2_with (refine HCall.out.mono ?_; rintro e' w5 ⟨rfl, hb5⟩; have hcg5 := ((bcells hb5).1 _ _ h0z).trans hcg)
            refine ⟨rfl, ?_, bfrom HBw.out hb5⟩
            rw [HR.out, if_neg (fun h => by
              have h1 := h v hlt2
              rw [Hn.out, HY.out] at h1
              exact H0.out (HZ.out.symm.trans (of_decide_eq_true h1)))]
        · obtain rfl : v = N := by omega
          go_wp2
          go_end0
          refine ⟨?_, bfrom HB4.out hBv.out⟩
          rw [HR.out, if_pos (show flowP (fun x => decide (z x = 0)) v es xs from fun u hu => by rw [Hn.out]; exact decide_eq_true (hD.out u hu))]

set_option maxRecDepth 100000 in
/-- The door, where the body has returned: nothing is recovered. -/
theorem iDoor_idle (p : Addr) (w : World) :
    CallsD Tryd.prog 41 #[.pointer (some p)] .returning w fun e u' w' => e = .returned (.tuple #[]) ∧ u' = .returning ∧ w' = w := by
  have hta : ∀ w, Sem.run Tryd.prog (Instr.typeAssert .nilIface 20 48 true) w = .ok (.tuple #[.nilIface, .bool false]) w := fun _ => by kernel_rfl
  refine callsD_of_wpS Tryd.func41 rfl fun c₀ cs hu => ?_
  simp only [Tryd.ntmps41, List.size_toArray, List.length_cons, List.length_nil, Nat.reduceAdd, Nat.reduceSub, Array.replicate_succ, Array.replicate_zero, List.push_toArray, List.append_toArray, List.nil_append, List.cons_append]
  apply wpS_seq
  apply wpS_region
  simp [wpOpsS, go_sem, recoverD, hu, Exit.thenS, hta]
  apply wpS_seq
  apply wpS_region
  simp [wpOpsS, go_sem, Exit.thenS]
  refine wpS_cond (t := false) (by simp [Act.eval]) ?_
  simp only [Bool.false_eq_true, if_false]
  refine wpS_of_wp (wp_skip ?_)
  cases c₀
  simp_all [bodyPostS, results, Tryd.results41]

set_option maxRecDepth 100000 in
/-- The door, where the body has panicked with an error: it is what is found. -/
theorem iDoor_found (p pa : Addr) (older : List PanicEntry) (w : World) (o : Value) (hc : w.cell? p = some o) (hz : w.frozen? p = false) :
    CallsD Tryd.prog 41 #[.pointer (some p)] (.panicking ({ v := .iface 104 (.pointer (some pa)), recovered := false } :: older)) w fun e u' w' =>
      e = .returned (.tuple #[]) ∧ u' = .panicking ({ v := .iface 104 (.pointer (some pa)), recovered := true } :: older) ∧ w' = w.setCell p (.iface 104 (.pointer (some pa))) := by
  have hta : ∀ w, Sem.run Tryd.prog (Instr.typeAssert (.iface 104 (.pointer (some pa))) 20 48 true) w = .ok (.tuple #[.iface 104 (.pointer (some pa)), .bool true]) w := fun _ => by kernel_rfl
  refine callsD_of_wpS Tryd.func41 rfl fun c₀ cs hu => ?_
  simp only [Tryd.ntmps41, List.size_toArray, List.length_cons, List.length_nil, Nat.reduceAdd, Nat.reduceSub, Array.replicate_succ, Array.replicate_zero, List.push_toArray, List.append_toArray, List.nil_append, List.cons_append]
  apply wpS_seq
  apply wpS_region
  simp [wpOpsS, go_sem, recoverD, hu, Exit.thenS, hta]
  apply wpS_seq
  apply wpS_region
  simp [wpOpsS, go_sem, Exit.thenS]
  refine wpS_cond (t := true) (by simp [Act.eval]) ?_
  simp only [if_true]
  apply wpS_region
  simp [wpOpsS, go_sem, hc, hz, bodyPostS, results, Tryd.results41]

set_option maxRecDepth 100000 in
set_option maxHeartbeats 4000000 in
theorem iErr_any (N b off n c f : Nat) (ps : Option Addr) (es : List (Int × Int)) (xs : List Int) (lo up : Int) (G : FuncId) (lb : Array Value) (z : Int → Int) (pa : Addr) (w : World) (hn : es.length = n) (hr : ReadsE w b off es) (hx : xs.length = n) (hrx : SeesI w ps xs) (g : IsG N es) (hv : ∀ i, i < xs.length → -1000 ≤ eI xs i ∧ eI xs i ≤ 1000)
    (hst : StandsAt w G lb z) (eg : ∀ args w, (callFunc G args).run Tryd.prog w = .ok (.enter G args) w) (hg : w.cell? ⟨0, 0, none⟩ = some (.iface 104 (.pointer (some pa)))) :
    Calls Tryd.prog 28 #[.agg #[.int .i64 N, .slice (some ⟨b, off, none⟩) n c], .slice ps n f, .agg #[.int .i64 lo, .int .i64 up, .func (.func G) #[] lb]] w fun e' w' => e' = .returned (if flowP (fun x => decide (z x = 0)) N es xs then .nilIface else .iface 104 (.pointer (some pa))) ∧ Below w.heap.size w w' := by
  have hmf : ∀ (fn : Fn) (first cap : Array Value) (w : World), (Instr.makeFunc fn first cap).run Tryd.prog w = .ok (.func fn first cap) w := fun _ _ _ _ => rfl
  have HB3 := hid (show Below w.heap.size w (((w.alloc (.cells #[.int .i64 N, .slice (some ⟨b, off, none⟩) n c] 31)).alloc (.cells #[.int .i64 lo, .int .i64 up, .func (.func G) #[] lb] 52)).alloc (.cells #[.nilIface] 48)) from bfrom (bfrom (on_alloc _ _) (on_alloc _ _)) (on_alloc _ _))
  have hcall := iReq_any N b off n c f ps es xs lo up G lb z pa _ hn (hr.on HB3.out) hx (hrx.on HB3.out) g hv (hst.on HB3.out) eg (((bcells HB3.out).1 _ _ (World.block_lt_of_cell? _ _ hg)).trans hg)
  have HO := hid (show (((w.alloc (.cells #[.int .i64 N, .slice (some ⟨b, off, none⟩) n c] 31)).alloc (.cells #[.int .i64 lo, .int .i64 up, .func (.func G) #[] lb] 52)).alloc (.cells #[.nilIface] 48)).heap[w.heap.size + 2]? = some (.cells #[.nilIface] 48 (0, 0)) by
    have h := heap_alloc_new ((w.alloc (.cells #[.int .i64 N, .slice (some ⟨b, off, none⟩) n c] 31)).alloc (.cells #[.int .i64 lo, .int .i64 up, .func (.func G) #[] lb] 52)) (.cells #[.nilIface] 48)
    simpa using h)
  have HCall := hid hcall
  clear hn hr hx hrx g hv hst eg hg hcall
  by_cases hf : flowP (fun x => decide (z x = 0)) N es xs
  · rw [if_pos hf] at HCall ⊢
    clear hf
    go_enter_defers Tryd.func28, Tryd.ntmps28
    go_wp2_with (go_at_call 42; refine HCall.out.mono ?_; rintro e' w5 ⟨rfl, hb5⟩; have ho5 := (hb5.block (w.heap.size + 2) (by simp)).trans HO.out; have hc5 := cell_of_row w5 _ 0 _ _ _ ho5; have hz5 := frozen_of_row w5 _ 0 _ _ ho5)
    refine leaves_cons (f := 41) (args := #[.pointer (some ⟨w.heap.size + 1 + 1, 0, none⟩)]) (by simp) (by simp [go_sem]) ?_
    refine (iDoor_idle _ _).mono ?_
    rintro e u' w'' ⟨rfl, rfl, rfl⟩
    have hc6 : (w5.setCell ⟨w.heap.size + 1 + 1, 0, none⟩ .nilIface).cell? ⟨w.heap.size + 1 + 1, 0, none⟩ = some .nilIface := by
      exact (cell_of_row _ _ 0 _ _ _ (heap_setCell_same _ _ _ _ _ _ ho5)).trans (by simp)
    have hB6 : Below w.heap.size w (w5.setCell ⟨w.heap.size + 1 + 1, 0, none⟩ .nilIface) := (bfrom HB3.out hb5).setCell (p := ⟨w.heap.size + 1 + 1, 0, none⟩) (by simp; omega) _
    simp [Leaves, settle, results, Tryd.results28, go_sem, hc6, hB6]
  · rw [if_neg hf] at HCall ⊢
    clear hf
    go_enter_defers Tryd.func28, Tryd.ntmps28
    go_wp2_with (go_at_call 42; refine HCall.out.mono ?_; rintro e' w5 ⟨rfl, hb5⟩; have ho5 := (hb5.block (w.heap.size + 2) (by simp)).trans HO.out; have hc5 := cell_of_row w5 _ 0 _ _ _ ho5; have hz5 := frozen_of_row w5 _ 0 _ _ ho5)
    refine leaves_cons (f := 41) (args := #[.pointer (some ⟨w.heap.size + 1 + 1, 0, none⟩)]) (by simp) (by simp [go_sem]) ?_
    refine (iDoor_found _ pa [] _ .nilIface ?_ ?_).mono ?_
    · exact hc5.trans (by simp)
    · exact hz5
    rintro e u' w'' ⟨rfl, rfl, rfl⟩
    have hc6 : (w5.setCell ⟨w.heap.size + 1 + 1, 0, none⟩ (.iface 104 (.pointer (some pa)))).cell? ⟨w.heap.size + 1 + 1, 0, none⟩ = some (.iface 104 (.pointer (some pa))) := by
      exact (cell_of_row _ _ 0 _ _ _ (heap_setCell_same _ _ _ _ _ _ ho5)).trans (by simp)
    have hB6 : Below w.heap.size w (w5.setCell ⟨w.heap.size + 1 + 1, 0, none⟩ (.iface 104 (.pointer (some pa)))) := (bfrom HB3.out hb5).setCell (p := ⟨w.heap.size + 1 + 1, 0, none⟩) (by simp; omega) _
    simp [Leaves, settle, results, Tryd.results28, go_sem, hc6, hB6]

end Go.Proofs.YthncgpbgffbpgaaDoor
