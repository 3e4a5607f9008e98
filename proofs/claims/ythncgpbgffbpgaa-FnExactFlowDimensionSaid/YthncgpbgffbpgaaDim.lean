/- FlowDimension in the model and in the program. -/
import Derived.Test.YthncgpbgffbpgaaConI
import Derived.Deep.RegionHeld3
namespace Go.Proofs.Ythncgpbgffbpgaa
open Go.RowKit

theorem numP_le (N : Nat) (es : List (Int × Int)) : numP N es ≤ N := leadU_len N es N

def fFlowDimension (s : Int) (es : List (Int × Int)) : Int × Int := if IsG s es then ((es.length : Int) - s + numP s.toNat es, 0) else (0, 1)

set_option maxRecDepth 100000 in
set_option maxHeartbeats 2000000 in
theorem sFlowDimension_any (s : Int) (p : Option Addr) (n c : Nat) (es : List (Int × Int)) (w : World) (hm : n ≤ 1048576) (hl : es.length = n) (hr : SeesE w p es) :
    Calls Try.prog 18 #[.agg #[.int .i64 s, .slice p n c]] w fun e' w' => e' = .returned (.tuple #[.int .i64 (fFlowDimension s es).1, .int .i64 (fFlowDimension s es).2]) ∧ Below w.heap.size w w' := by
  have Hn := hid hl
  have Hr := hid hr
  have hm9 : n ≤ 9223372036854775807 := by omega
  unfold fFlowDimension
  rw [hl]
  clear hl hr
  by_cases g : IsG s es
  · rw [if_pos g]
    obtain ⟨N, rfl⟩ : ∃ N : Nat, s = N := ⟨_, (Int.toNat_of_nonneg (by have := g.1.1.1; omega)).symm⟩
    rw [Int.toNat_natCast]
    have hn30 : n ≤ 30 := by have := isG_len g; have := Hn.out; omega
    have hN4 : N ≤ 20 := by have := g.1.1.2.1; omega
    have G := hid g
    clear g
    obtain ⟨r, hrr⟩ : ∃ r, numP N es = r := ⟨_, rfl⟩
    have hr20 : r ≤ N := by rw [← hrr]; exact numP_le N es
    have e1 : IntKind.i64.wrap ((n : Int) - N) = (n : Int) - N := IntWalk.i64_in _ (by omega)
    have e2 : IntKind.i64.wrap ((n : Int) - N + r) = (n : Int) - N + r := IntWalk.i64_in _ (by omega)
    rw [hrr]
    have HRR := hid hrr
    clear hrr
    go_enter Try.func18, Try.ntmps18
    go_wp2_with fail
    refine (sIs_any _ _ _ _ es _ hm9 Hn.out (Hr.out.on (on_alloc _ _))).mono ?_
    rw [decide_eq_true G.out]
    rintro e w2 ⟨rfl, hb2⟩
    have HB2 := hid (bfrom (w := w) (on_alloc _ _) hb2)
    have hX2 := (Box.new w N p n c 31).on hb2
    have hx2 := hX2.1
    have hy2 := hX2.2
    have hz2 := hX2.lt
    clear hX2 hb2
    have hz2' : w.heap.size < w2.heap.size := hz2
    go_upto_region 3 with fail
    go_region_held3 (fun w' => w'.cell? ⟨w.heap.size, 0, none⟩ = some (.int .i64 N) ∧ w'.cell? ⟨w.heap.size, 1, none⟩ = some (.slice p n c)) (go_keep) (first
      | (go_at_call 32; refine (sParts_any N p n c es _ Hn.out hn30 hN4 ?_ (endsIn_of G.out)).mono ?_; (first | exact Hr.out.on HB2.out | exact Hr.out.on HB2.out.drew); rw [HRR.out]; rintro e w3 ⟨rfl, hb3⟩; have hx3 := ((bcells hb3).1 _ _ hz2').trans hx2; have hy3 := ((bcells hb3).1 _ _ hz2').trans hy2; have hb3' : Below w2.heap.size w2 w3 := bfrom (Below.refl _ _).drew hb3))
    all_goals
      go_wp2_with fail
      go_ret2
      exact ⟨by first | rfl | simp, by first | exact bfrom HB2.out hb3' | exact bdn.mpr (bfrom HB2.out hb3')⟩
  · rw [if_neg g]
    have G := hid g
    clear g
    go_enter Try.func18, Try.ntmps18
    go_wp2_with fail
    refine (sIs_any _ _ _ _ es _ hm9 Hn.out (Hr.out.on (on_alloc _ _))).mono ?_
    rw [decide_eq_false G.out]
    rintro e w2 ⟨rfl, hb2⟩
    have hB2 := bfrom (w := w) (by go_grown) hb2
    go_wp2
    go_ret2
    exact ⟨rfl, hB2⟩

set_option maxRecDepth 100000 in
set_option maxHeartbeats 4000000 in
theorem iFlowDimension_any (s : Int) (p : Option Addr) (n c : Nat) (es : List (Int × Int)) (w : World) (hm : n ≤ 1048576) (hl : es.length = n) (hr : SeesE w p es) :
    Calls Try.prog 19 #[.agg #[.int .i64 s, .slice p n c]] w fun e' w' => e' = .returned (.tuple #[.int .i64 (fFlowDimension s es).1, .int .i64 (fFlowDimension s es).2]) ∧ Below w.heap.size w w' := by
  have Hn := hid hl
  have Hr := hid hr
  unfold fFlowDimension
  rw [hl]
  by_cases g : IsG s es
  · rw [if_pos g]
    obtain ⟨N, rfl⟩ : ∃ N : Nat, s = N := ⟨_, (Int.toNat_of_nonneg (by have := g.1.1.1; omega)).symm⟩
    rw [Int.toNat_natCast]
    obtain ⟨b, off, rfl, rd⟩ := isG_sees g hr
    have hn30 : n ≤ 30 := by have := isG_len g; have := Hn.out; omega
    have hN4 : N ≤ 20 := by have := g.1.1.2.1; omega
    have G := hid g
    have HRd := hid rd
    clear g hl hr rd
    obtain ⟨m, hmm⟩ : ∃ m, numP N es = m := ⟨_, rfl⟩
    have hr20 : m ≤ N := by rw [← hmm]; exact numP_le N es
    have e1 : IntKind.i64.wrap ((n : Int) - N) = (n : Int) - N := IntWalk.i64_in _ (by omega)
    have e2 : IntKind.i64.wrap ((n : Int) - N + m) = (n : Int) - N + m := IntWalk.i64_in _ (by omega)
    rw [hmm]
    have HM := hid hmm
    clear hmm
    go_enter Try.func19, Try.ntmps19
    go_wp2_with fail
    refine (iIsGraph_any _ _ _ _ es _ hm Hn.out (Hr.out.on (on_alloc _ _))).mono ?_
    rw [decide_eq_true G.out]
    rintro e w2 ⟨rfl, hb2⟩
    have HB2 := hid (bfrom (w := w) (on_alloc _ _) hb2)
    have hX2 := (Box.new w N (some ⟨b, off, none⟩) n c 31).on hb2
    have hx2 := hX2.1
    have hy2 := hX2.2
    have hz2 := hX2.lt
    clear hX2 hb2
    have hz2' : w.heap.size < w2.heap.size := hz2
    go_upto_region 3 with fail
    go_region_held3 (fun w' => w'.cell? ⟨w.heap.size, 0, none⟩ = some (.int .i64 N) ∧ w'.cell? ⟨w.heap.size, 1, none⟩ = some (.slice (some ⟨b, off, none⟩) n c)) (go_keep) (first
      | (go_at_call 34; refine (iParts_any N b off n c es _ Hn.out hn30 ?_ ?_ (endsIn_of G.out) (isG_diff G.out) (isG_twenty G.out)).mono ?_; (first | exact isG_block G.out (HRd.out.on HB2.out) | exact isG_block G.out (HRd.out.on HB2.out.drew)); (first | exact HRd.out.on HB2.out | exact HRd.out.on HB2.out.drew); rintro e w3 ⟨q, cap, vals, rfl, _, hb3⟩; rw [HM.out]; have hx3 := ((bcells hb3).1 _ _ hz2').trans hx2; have hy3 := ((bcells hb3).1 _ _ hz2').trans hy2; have hb3' : Below w2.heap.size w2 w3 := bfrom (Below.refl _ _).drew hb3))
    all_goals
      go_wp2_with fail
      go_ret2
      exact ⟨by first | rfl | simp, by first | exact bfrom HB2.out hb3' | exact bdn.mpr (bfrom HB2.out hb3')⟩
  · rw [if_neg g]
    have G := hid g
    clear g hl hr
    go_enter Try.func19, Try.ntmps19
    go_wp2_with fail
    refine (iIsGraph_any _ _ _ _ es _ hm Hn.out (Hr.out.on (on_alloc _ _))).mono ?_
    rw [decide_eq_false G.out]
    rintro e w2 ⟨rfl, hb2⟩
    have hB2 := bfrom (w := w) (by go_grown) hb2
    go_wp2
    go_ret2
    exact ⟨rfl, hB2⟩

end Go.Proofs.Ythncgpbgffbpgaa
