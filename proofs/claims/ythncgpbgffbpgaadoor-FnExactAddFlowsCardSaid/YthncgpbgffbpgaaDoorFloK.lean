/- Flows in the program: kinds of values, and whether a list is a flow. -/
import Derived.Test.YthncgpbgffbpgaaDoorFloJ
import Derived.Deep.RegionHeld3
import Derived.Laws.EntriesVeiled
namespace Go.Proofs.YthncgpbgffbpgaaDoor
open Go.RowKit

theorem lsts_one (es : List (Int × Int)) (lo up : Int) (xs : List Int) : lstsCode es lo up 1 (fun _ => xs) = lstCode es lo up xs := by
  unfold lstsCode
  by_cases h : lstCode es lo up xs = 0
  · rw [if_pos (fun _ _ => h), h]
  · rw [if_neg (fun hh => h (hh 0 (by omega)))]
    unfold lstCode at h ⊢
    split
    · rename_i h1; rw [if_pos h1] at h; exact absurd rfl h
    · rfl
theorem lsts_two (es : List (Int × Int)) (lo up : Int) (xs ys : List Int) : lstsCode es lo up 2 (fun i => if i = 0 then xs else ys) = if lstCode es lo up xs = 0 ∧ lstCode es lo up ys = 0 then 0 else 2 := by
  unfold lstsCode
  by_cases h : lstCode es lo up xs = 0 ∧ lstCode es lo up ys = 0
  · rw [if_pos h, if_pos (fun i hi => by
      rcases (by omega : i = 0 ∨ i = 1) with rfl | rfl
      · exact h.1
      · exact h.2)]
  · rw [if_neg h, if_neg (fun hh => h ⟨hh 0 (by omega), hh 1 (by omega)⟩)]

theorem iVals_one (s : Int) (p ps : Option Addr) (n c k f g : Nat) (es : List (Int × Int)) (m lo up : Int) (xs : List Int) (w : World) (hm : n ≤ 1048576) (hn : es.length = n) (hr : SeesE w p es) (hX : RowsI w g 0 1 (fun _ => ps) (fun _ => k) (fun _ => f) (fun _ => xs)) :
    Calls Tryd.prog 27 #[.agg #[.int .i64 s, .slice p n c], .int .i64 m, .int .i64 lo, .int .i64 up, .slice (some ⟨g, 0, none⟩) 1 1] w fun e' w' => e' = .returned (.int .i64 (flCode s es m lo up xs)) ∧ Below w.heap.size w w' := by
  unfold flCode
  by_cases h0 : modCode s es m = 0
  · rw [if_pos h0, ← lsts_one]
    exact iVals_yes s p n c g 0 1 1 es m lo up _ _ _ _ w hm hn hr h0 (by omega) hX
  · rw [if_neg h0]
    exact iVals_no s p _ n c 1 1 es m lo up w hm hn hr h0

def addCode (s : Int) (es : List (Int × Int)) (m : Int) (xs ys : List Int) : Int := if modCode s es m = 0 then (if lstCode es 0 (m - 1) xs = 0 ∧ lstCode es 0 (m - 1) ys = 0 then 0 else 2) else modCode s es m
theorem iVals_two (s : Int) (p : Option Addr) (n c d g : Nat) (es : List (Int × Int)) (m : Int) (P : Nat → Option Addr) (L C : Nat → Nat) (xs ys : List Int) (w : World) (hm : n ≤ 1048576) (hn : es.length = n) (hr : SeesE w p es) (hX : RowsI w g 0 2 P L C (fun i => if i = 0 then xs else ys)) :
    Calls Tryd.prog 27 #[.agg #[.int .i64 s, .slice p n c], .int .i64 m, .int .i64 0, .int .i64 (m - 1), .slice (some ⟨g, 0, none⟩) 2 d] w fun e' w' => e' = .returned (.int .i64 (addCode s es m xs ys)) ∧ Below w.heap.size w w' := by
  unfold addCode
  by_cases h0 : modCode s es m = 0
  · rw [if_pos h0, ← lsts_two]
    exact iVals_yes s p n c g 0 2 d es m 0 (m - 1) _ _ _ _ w hm hn hr h0 (by omega) hX
  · rw [if_neg h0]
    exact iVals_no s p _ n c 2 d es m 0 (m - 1) w hm hn hr h0

theorem z_mod (m : Int) : (fun x => decide (stM m x = 0)) = zMod m := funext fun _ => decide_eq_decide.2 stM_zero
theorem z_all : (fun x : Int => decide ((fun y : Int => y) x = 0)) = zAll := rfl

set_option maxRecDepth 100000 in
set_option maxHeartbeats 2000000 in
theorem iKind_mod (m : Int) (w : World) (hm : 2 ≤ m ∧ m ≤ 6) :
    Calls Tryd.prog 29 #[.int .i64 m] w fun e' w' => e' = .returned (.agg #[.int .i64 1, .int .i64 (m - 1), .func (.func 43) #[] #[.pointer (some ⟨w.heap.size, 0, none⟩)]]) ∧ w'.cell? ⟨w.heap.size, 0, none⟩ = some (.int .i64 m) ∧ Below w.heap.size w w' := by
  have hmf : ∀ (fn : Fn) (first cap : Array Value) (w : World), (Instr.makeFunc fn first cap).run Tryd.prog w = .ok (.func fn first cap) w := fun _ _ _ _ => rfl
  have e1 : IntKind.i64.wrap (m - 1) = m - 1 := IntWalk.i64_in _ (by omega)
  go_enter Tryd.func29, Tryd.ntmps29
  go_wp2
  refine bodyPost_ret (results_cell_row rfl _ _ (w.heap.size + 1) 52 #[.int .i64 1, .int .i64 (m - 1), .func (.func 43) #[] #[.pointer (some ⟨w.heap.size, 0, none⟩)]] (0, 0) _ rfl ?_ Tryd.underlying52 rfl (by kernel_rfl)) rfl ?_
  · have h := heap_alloc_new (w.alloc (.cells #[.int .i64 m] 2)) (.cells #[.int .i64 1, .int .i64 (m - 1), .func (.func 43) #[] #[.pointer (some ⟨w.heap.size, 0, none⟩)]] 52)
    simpa using h
  · exact ⟨rfl, by simp, bfrom (on_alloc _ _) (on_alloc _ _)⟩

set_option maxRecDepth 100000 in
set_option maxHeartbeats 2000000 in
theorem iKind_whole (m : Int) (w : World) (hm : 2 ≤ m ∧ m ≤ 6) :
    Calls Tryd.prog 34 #[.int .i64 m] w fun e' w' => e' = .returned (.agg #[.int .i64 (1 - m), .int .i64 (m - 1), .func (.func 46) #[] #[]]) ∧ Below w.heap.size w w' := by
  have e1 : IntKind.i64.wrap (m - 1) = m - 1 := IntWalk.i64_in _ (by omega)
  have e2 : IntKind.i64.wrap (1 - m) = 1 - m := IntWalk.i64_in _ (by omega)
  go_enter Tryd.func34, Tryd.ntmps34
  go_wp2
  refine bodyPost_ret (results_cell_row rfl _ _ w.heap.size 52 #[.int .i64 (1 - m), .int .i64 (m - 1), .func (.func 46) #[] #[]] (0, 0) _ rfl ?_ Tryd.underlying52 rfl (by kernel_rfl)) rfl ?_
  · exact heap_alloc_new _ _
  · exact ⟨rfl, on_alloc _ _⟩

set_option maxRecDepth 100000 in
set_option maxHeartbeats 2000000 in
theorem iHas_any (lo up x : Int) (F : Value) (w : World) :
    Calls Tryd.prog 45 #[.agg #[.int .i64 lo, .int .i64 up, F], .int .i64 x] w fun e' w' => e' = .returned (.bool (decide (x ≠ 0 ∧ lo ≤ x ∧ x ≤ up))) ∧ Below w.heap.size w w' := by
  by_cases h0 : x = 0
  · rw [decide_eq_false (fun h => h.1 h0)]
    subst h0
    go_enter Tryd.func45, Tryd.ntmps45
    go_wp2
    go_ret
    exact ⟨rfl, by go_grown⟩
  · have h0' : (x != 0) = true := by simpa using h0
    by_cases h1 : lo ≤ x
    · have h1' : decide (lo ≤ x) = true := by simpa using h1
      by_cases h2 : x ≤ up
      · have h2' : decide (x ≤ up) = true := by simpa using h2
        rw [decide_eq_true ⟨h0, h1, h2⟩]
        clear h0 h1 h2
        go_enter Tryd.func45, Tryd.ntmps45
        go_wp2
        go_ret
        exact ⟨rfl, by go_grown⟩
      · have h2' : decide (x ≤ up) = false := by simpa using h2
        rw [decide_eq_false (fun h => h2 h.2.2)]
        clear h0 h1 h2
        go_enter Tryd.func45, Tryd.ntmps45
        go_wp2
        go_ret
        exact ⟨rfl, by go_grown⟩
    · have h1' : decide (lo ≤ x) = false := by simpa using h1
      rw [decide_eq_false (fun h => h1 h.2.1)]
      clear h0 h1
      go_enter Tryd.func45, Tryd.ntmps45
      go_wp2
      go_ret
      exact ⟨rfl, by go_grown⟩

set_option maxRecDepth 100000 in
set_option maxHeartbeats 8000000 in
theorem iFlowOf_any (N b off n c f : Nat) (ps : Option Addr) (es : List (Int × Int)) (xs : List Int) (lo up : Int) (G : FuncId) (lb : Array Value) (z : Int → Int) (pa : Addr) (w : World) (hn : es.length = n) (hr : ReadsE w b off es) (hx : xs.length = n) (hrx : SeesI w ps xs) (g : IsG N es) (hv : ∀ i, i < xs.length → -1000 ≤ eI xs i ∧ eI xs i ≤ 1000)
    (hst : StandsAt w G lb z) (eg : ∀ args w, (callFunc G args).run Tryd.prog w = .ok (.enter G args) w) (hg : w.cell? ⟨0, 0, none⟩ = some (.iface 104 (.pointer (some pa)))) :
    Calls Tryd.prog 31 #[.agg #[.int .i64 N, .slice (some ⟨b, off, none⟩) n c], .slice ps n f, .agg #[.int .i64 lo, .int .i64 up, .func (.func G) #[] lb]] w fun e' w' => e' = .returned (.bool (decide (hasP lo up xs ∧ flowP (fun x => decide (z x = 0)) N es xs))) ∧ Below w.heap.size w w' := by
  have hnil : ∀ w : World, (binOp BinOp.eql 48 .nilIface .nilIface).run Tryd.prog w = .ok (.bool true) w := fun _ => by kernel_rfl
  have hifc : ∀ w : World, (binOp BinOp.eql 48 (.iface 104 (.pointer (some pa))) .nilIface).run Tryd.prog w = .ok (.bool false) w := fun _ => by kernel_rfl
  have Hn := hid hn
  have Hr := hid hr
  have Hx := hid hx
  have Hrx := hid hrx
  have GG := hid g
  have HV := hid hv
  have HST := hid hst
  have HG := hid hg
  have hn30 : n ≤ 30 := by have := isG_len g; omega
  have hg0 := World.block_lt_of_cell? _ _ hg
  obtain ⟨sb, so, rfl, hrd⟩ : ∃ sb so, ps = some ⟨sb, so, none⟩ ∧ ReadsI w sb so xs := by
    have hn3 : 0 < n := by have := g.1.1; unfold okSize at this; omega
    rcases hrx with h | h
    · rw [h] at hx; simp at hx; omega
    · exact h
  have Hrd := hid hrd
  obtain ⟨r, hR⟩ : ∃ r, r = decide (hasP lo up xs ∧ flowP (fun x => decide (z x = 0)) N es xs) := ⟨_, rfl⟩
  rw [← hR]
  have HR := hid hR
  clear hn hr hx hrx g hv hst hg hrd hR
  go_enter Tryd.func31, Tryd.ntmps31
  have HX2 := hid ((Box.new w (N : Int) (some ⟨b, off, none⟩) n c 31).on (on_alloc _ (.cells #[.int .i64 lo, .int .i64 up, .func (.func G) #[] lb] 52)))
  have HB2 := hid (show Below w.heap.size w ((w.alloc (.cells #[.int .i64 N, .slice (some ⟨b, off, none⟩) n c] 31)).alloc (.cells #[.int .i64 lo, .int .i64 up, .func (.func G) #[] lb] 52)) from bfrom (on_alloc _ _) (on_alloc _ _))
  have hk0 : ((w.alloc (.cells #[.int .i64 N, .slice (some ⟨b, off, none⟩) n c] 31)).alloc (.cells #[.int .i64 lo, .int .i64 up, .func (.func G) #[] lb] 52)).heap[w.heap.size + 1]? = some (.cells #[.int .i64 lo, .int .i64 up, .func (.func G) #[] lb] 52 (0, 0)) := by
    have h := heap_alloc_new (w.alloc (.cells #[.int .i64 N, .slice (some ⟨b, off, none⟩) n c] 31)) (.cells #[.int .i64 lo, .int .i64 up, .func (.func G) #[] lb] 52)
    simpa using h
  have HK2 := hid hk0
  have HZ2 := hid (show ((w.alloc (.cells #[.int .i64 N, .slice (some ⟨b, off, none⟩) n c] 31)).alloc (.cells #[.int .i64 lo, .int .i64 up, .func (.func G) #[] lb] 52)).heap.size = w.heap.size + 2 by simp)
  clear hk0
  go_upto_region 1 with fail
  obtain ⟨w2, hw2⟩ : ∃ w2, w2 = (w.alloc (.cells #[.int .i64 N, .slice (some ⟨b, off, none⟩) n c] 31)).alloc (.cells #[.int .i64 lo, .int .i64 up, .func (.func G) #[] lb] 52) := ⟨_, rfl⟩
  rw [← hw2] at HX2 HB2 HK2 HZ2 ⊢
  clear hw2
  go_wp2
  go_loopw [11] (fun iv wr => ∃ i : Nat, i ≤ n ∧ iv = .int .i64 i ∧ Hid (∀ j, j < i → eI xs j ≠ 0 ∧ lo ≤ eI xs j ∧ eI xs j ≤ up) ∧ Hid (Below w2.heap.size w2 wr)) (fun iv _ => n - (intOf iv).toNat)
  case atStart => exact ⟨0, Nat.zero_le _, rfl, hid (fun j hj => by omega), hid (Below.refl _ _)⟩
  case round =>
    obtain ⟨i, hi, rfl, hD, hB⟩ := hrel
    have hkr := (hB.out.block (w.heap.size + 1) (by have := HZ2.out; omega)).trans HK2.out
    have hk0 := cell_of_row wr _ 0 _ _ _ hkr
    have hk1 := cell_of_row wr _ 1 _ _ _ hkr
    have hk2 := cell_of_row wr _ 2 _ _ _ hkr
    simp only [List.getElem?_toArray, List.getElem?_cons_zero, List.getElem?_cons_succ] at hk0 hk1 hk2
    have hkz : w.heap.size + 1 < wr.heap.size := by have := hB.out.size; have := HZ2.out; omega
    have HBw := hid (bfrom HB2.out hB.out)
    obtain ⟨wo, rfl⟩ : ∃ wo : World, wo = wr := ⟨_, rfl⟩
    by_cases hlt : i < n
    · have hcc := Hrd.out.on HBw.out i (by have := Hx.out; omega)
      have hcb : sb < wo.heap.size := (Hrd.out.on HBw.out).lt (by have := Hx.out; omega)
      obtain ⟨x, hxx⟩ : ∃ x, eI xs i = x := ⟨_, rfl⟩
      rw [hxx] at hcc
      have HXX := hid hxx
      clear hxx
      by_cases h1 : x ≠ 0 ∧ lo ≤ x ∧ x ≤ up
      · have H1 := hid h1
        clear h1
        go_wp2_with (go_at_call 45; refine (iHas_any lo up x _ _).mono ?_; rw [decide_eq_true H1.out]; rintro e' w5 ⟨rfl, hb5⟩)
        go_roundw
        case rel =>
          refine ⟨i + 1, by omega, by go_num, hid (fun j hj => ?_), hid (hB.out.trans (hb5.mono hB.out.size))⟩
          rcases Nat.lt_or_ge j i with h | h
          · exact hD.out j h
          · obtain rfl : j = i := by omega
            rw [HXX.out]; exact H1.out
        case measure => simp [intOf]; omega
      · have H1 := hid h1
        clear h1
        go_wp2_with (go_at_call 45; refine (iHas_any lo up x _ _).mono ?_; rw [decide_eq_false H1.out]; rintro e' w5 ⟨rfl, hb5⟩)
        go_ret
        refine ⟨?_, bfrom HBw.out hb5⟩
        rw [HR.out, decide_eq_false (fun h => H1.out (by have h2 := h.1 i (by have := Hx.out; omega); rwa [HXX.out] at h2))]
        rfl
    · obtain rfl : i = n := by omega
      have hXw := HX2.out.on hB.out
      have hx1 := hXw.1
      have hx2 := hXw.2
      have hx3 := hXw.lt
      have HH := hid (show hasP lo up xs from fun j hj => hD.out j (by have := Hx.out; omega))
      have hcall := iErr_any N b off i c f (some ⟨sb, so, none⟩) es xs lo up G lb z pa wo Hn.out (Hr.out.on HBw.out) Hx.out (Hrx.out.on HBw.out) GG.out HV.out (HST.out.on HBw.out) eg (((bcells HBw.out).1 _ _ hg0).trans HG.out)
      have HCall := hid hcall
      clear hcall hXw
      by_cases hf : flowP (fun x => decide (z x = 0)) N es xs
      · rw [if_pos hf] at HCall
        have HF := hid hf
        clear hf
        go_wp2_with (go_at_call 28; refine HCall.out.mono ?_; rintro e' w5 ⟨rfl, hb5⟩)
        go_ret
        refine ⟨?_, bfrom HBw.out hb5⟩
        rw [HR.out, decide_eq_true ⟨HH.out, HF.out⟩]
        rfl
      · rw [if_neg hf] at HCall
        have HF := hid hf
        clear hf
        go_wp2_with (go_at_call 28; refine HCall.out.mono ?_; rintro e' w5 ⟨rfl, hb5⟩)
        go_ret
        refine ⟨?_, bfrom HBw.out hb5⟩
        rw [HR.out, decide_eq_false (fun h => HF.out h.2)]
        rfl

end Go.Proofs.YthncgpbgffbpgaaDoor
