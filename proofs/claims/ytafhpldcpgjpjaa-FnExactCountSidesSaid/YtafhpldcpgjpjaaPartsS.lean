/- How many parts there are, in the model; whether a graph is connected. -/
import Derived.Test.YtafhpldcpgjpjaaLeadS
namespace Go.Proofs.Ytafhpldcpgjpjaa
open Go.RowKit

set_option maxRecDepth 100000 in
set_option maxHeartbeats 4000000 in
theorem sParts_any (N : Nat) (p : Option Addr) (n c : Nat) (es : List (Int × Int)) (w : World) (hn : es.length = n) (hn30 : n ≤ 30) (hN : N ≤ 20) (hr : SeesE w p es) (he : EndsIn N es) :
    Calls Try.prog 79 #[.int .i64 N, .slice p n c] w fun e w' => e = .returned (.int .i64 (numP N es)) ∧ Below w.heap.size w w' := by
  have Hn := hid hn
  have Hr := hid hr
  have EI := hid he
  clear hn hr he
  go_enter Try.func79, Try.ntmps79
  go_wp2_with fail
  refine (sLeaders_any N p n c es _ Hn.out hn30 hN Hr.out EI.out).mono ?_
  rintro e w2 ⟨g, cap, xs, rfl, hg, hO, hL, hb2⟩
  have HO := hid hO
  have HL := hid hL
  have HB2 := hid hb2
  have hgz := hO.lt
  clear hO hL hb2
  go_wp2
  go_loopw [6, 7] (fun u v wr => ∃ k : Nat, k ≤ N ∧ u = .int .i64 (leadU N es k).length ∧ v = .int .i64 k ∧ Hid (wr = w2)) (fun _ v _ => N - (intOf v).toNat)
  case atStart => exact ⟨0, Nat.zero_le _, rfl, rfl, hid rfl⟩
  case round =>
    obtain ⟨k, hk, rfl, rfl, hw⟩ := hrel
    obtain rfl := hw.out
    have hlen := leadU_len N es k
    by_cases hlt : k < N
    · have hc := HO.out.reads k (by rw [HL.out.1.len]; exact hlt)
      rw [Nat.zero_add] at hc
      have hbe := HL.out.at_lead EI.out hlt
      obtain ⟨x, hx⟩ : ∃ x, eI xs k = x := ⟨_, rfl⟩
      rw [hx] at hc hbe
      obtain ⟨m, hm⟩ : ∃ m, (leadU N es k).length = m := ⟨_, rfl⟩
      rw [hm] at hlen
      have HM := hid hm
      rw [hm]
      cases hb : leadB N es k
      · rw [hb] at hbe
        have HB := hid hb
        clear hb hx hm
        go_wp2
        go_roundw
        case rel => exact ⟨k + 1, by omega, by rw [leadU_no HB.out, HM.out], by go_num, by first | exact hid rfl | exact hid trivial⟩
        case measure => simp [intOf]; omega
      · rw [hb] at hbe
        have HB := hid hb
        clear hb hx hm
        go_wp2
        go_roundw
        case rel => exact ⟨k + 1, by omega, by rw [leadU_yes HB.out, List.length_append, HM.out]; simp, by go_num, by first | exact hid rfl | exact hid trivial⟩
        case measure => simp [intOf]; omega
    · obtain rfl : k = N := by omega
      go_wp2
      go_ret
      exact ⟨rfl, HB2.out⟩

set_option maxRecDepth 100000 in
set_option maxHeartbeats 2000000 in
theorem sConnected_any (N : Nat) (p : Option Addr) (n c : Nat) (es : List (Int × Int)) (w : World) (hn : es.length = n) (hn30 : n ≤ 30) (hN : N ≤ 20) (hr : SeesE w p es) (he : EndsIn N es) :
    Calls Try.prog 58 #[.agg #[.int .i64 N, .slice p n c]] w fun e w' => e = .returned (.bool (numP N es == 1)) ∧ Below w.heap.size w w' := by
  have Hn := hid hn
  have Hr := hid hr
  have EI := hid he
  obtain ⟨m, hm⟩ : ∃ m, numP N es = m := ⟨_, rfl⟩
  rw [hm]
  have HM := hid hm
  obtain ⟨r, hr1⟩ : ∃ r, (m == 1) = r := ⟨_, rfl⟩
  rw [hr1]
  have HR := hid hr1
  clear hn hr he hm hr1
  go_enter Try.func58, Try.ntmps58
  go_wp2_with fail
  refine (sParts_any N p n c es _ Hn.out hn30 hN (Hr.out.on (on_alloc _ _)) EI.out).mono ?_
  rw [HM.out]
  rintro e w2 ⟨rfl, hb2⟩
  have HB2 := hid (bfrom (w := w) (on_alloc _ _) hb2)
  have hc : ((m : Int) == 1) = r := by
    rw [← HR.out]
    cases h1 : (m == 1)
    · have : m ≠ 1 := by simpa using h1
      simp
      omega
    · have : m = 1 := by simpa using h1
      subst this
      rfl
  go_wp2
  go_ret
  exact ⟨rfl, HB2.out⟩

def fIsConnected (s : Int) (es : List (Int × Int)) : Bool × Int := if IsG s es then (numP s.toNat es == 1, 0) else (false, 1)

set_option maxRecDepth 100000 in
set_option maxHeartbeats 2000000 in
theorem sIsConnected_any (s : Int) (p : Option Addr) (n c : Nat) (es : List (Int × Int)) (w : World) (hm : n ≤ 1048576) (hl : es.length = n) (hr : SeesE w p es) :
    Calls Try.prog 24 #[.agg #[.int .i64 s, .slice p n c]] w fun e' w' => e' = .returned (.tuple #[.bool (fIsConnected s es).1, .int .i64 (fIsConnected s es).2]) ∧ Below w.heap.size w w' := by
  have Hn := hid hl
  have Hr := hid hr
  have hm9 : n ≤ 9223372036854775807 := by omega
  clear hl hr
  unfold fIsConnected
  by_cases g : IsG s es
  · rw [if_pos g]
    obtain ⟨N, rfl⟩ : ∃ N : Nat, s = N := ⟨_, (Int.toNat_of_nonneg (by have := g.1.1.1; omega)).symm⟩
    rw [Int.toNat_natCast]
    have hn30 : n ≤ 30 := by have := isG_len g; have := Hn.out; omega
    have hN4 : N ≤ 20 := by have := g.1.1.2.1; omega
    have G := hid g
    clear g
    obtain ⟨r, hrr⟩ : ∃ r, (numP N es == 1) = r := ⟨_, rfl⟩
    rw [hrr]
    have HRR := hid hrr
    clear hrr
    go_enter Try.func24, Try.ntmps24
    go_wp2_with fail
    refine (sIs_any _ _ _ _ es _ hm9 Hn.out (Hr.out.on (on_alloc _ _))).mono ?_
    rw [decide_eq_true G.out]
    rintro e w2 ⟨rfl, hb2⟩
    have HB2 := hid (bfrom (w := w) (on_alloc _ _) hb2)
    have hX2 := (Box.new w N p n c 31).on hb2
    have hx2 := hX2.1
    have hy2 := hX2.2
    have hz2 := hX2.lt
    clear hX2 hb2
    go_wp2_with fail
    refine (sConnected_any N p n c es _ Hn.out hn30 hN4 (Hr.out.on HB2.out) (endsIn_of G.out)).mono ?_
    rw [HRR.out]
    rintro e w3 ⟨rfl, hb3⟩
    have HB3 := hid (bfrom HB2.out hb3)
    clear hx2 hy2 hz2 hb3
    go_wp2
    go_ret2
    exact ⟨rfl, HB3.out⟩
  · rw [if_neg g]
    have G := hid g
    clear g
    go_enter Try.func24, Try.ntmps24
    go_wp2_with fail
    refine (sIs_any _ _ _ _ es _ hm9 Hn.out (Hr.out.on (on_alloc _ _))).mono ?_
    rw [decide_eq_false G.out]
    rintro e w2 ⟨rfl, hb2⟩
    have hB2 := bfrom (w := w) (by go_grown) hb2
    go_wp2
    go_ret2
    exact ⟨rfl, hB2⟩

end Go.Proofs.Ytafhpldcpgjpjaa
