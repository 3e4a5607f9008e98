/- How many parts there are, in the model; whether a graph is connected. -/
import Derived.Test.YtpadnliebimceaaLeadS
namespace Go.Proofs.Ytpadnliebimceaa
open Go.RowKit

set_option maxRecDepth 100000 in
set_option maxHeartbeats 4000000 in
theorem sParts_any (N : Nat) (p : Option Addr) (n c : Nat) (es : List (Int × Int)) (w : World) (hn : es.length = n) (hn30 : n ≤ 30) (hN : N ≤ 20) (hr : SeesE w p es) (he : EndsIn N es) :
    Calls Try.prog 109 #[.int .i64 N, .slice p n c] w fun e w' => e = .returned (.int .i64 (numP N es)) ∧ Below w.heap.size w w' := by
  have Hn := hid hn
  have Hr := hid hr
  have EI := hid he
  clear hn hr he
  go_enter Try.func109, Try.ntmps109
  go_wp2_with fail
  refine (sLeaders_any N p n c es _ Hn.out hn30 hN Hr.out EI.out).mono ?_
  rintro e w2 ⟨g, cap, xs, rfl, hg, hO, hL, hb2⟩
  have HO := hid hO
  have HL := hid hL
  have HB2 := hid hb2
  have hgz := hO.lt
  clear hO hL hb2
  go_wp2
  go_loopw [6, 7] (fun u v wr => ∃ k : Nat, k ≤ N ∧ u = .int .i64 (leadU N es k).length ∧ v = .int .i64 k ∧ Hid (wr = w2)) (fun _ v _ => N - (intOf v).toNat)
  case atStart => exact ⟨0, Nat.zero_le _, rfl, rfl, hid rfl⟩
  case round =>
    obtain ⟨k, hk, rfl, rfl, hw⟩ := hrel
    obtain rfl := hw.out
    have hlen := leadU_len N es k
    by_cases hlt : k < N
    · have hc := HO.out.reads k (by rw [HL.out.1.len]; exact hlt)
      rw [Nat.zero_add] at hc
      have hbe := HL.out.at_lead EI.out hlt
      obtain ⟨x, hx⟩ : ∃ x, eI xs k = x := ⟨_, rfl⟩
      rw [hx] at hc hbe
      obtain ⟨m, hm⟩ : ∃ m, (leadU N es k).length = m := ⟨_, rfl⟩
      rw [hm] at hlen
      have HM := hid hm
      rw [hm]
      cases hb : leadB N es k
      · rw [hb] at hbe
        have HB := hid hb
        clear hb hx hm
        go_wp2
        go_roundw
        case rel => exact ⟨k + 1, by omega, by rw [leadU_no HB.out, HM.out], by go_num, by first | exact hid rfl | exact hid trivial⟩
        case measure => simp [intOf]; omega
      · rw [hb] at hbe
        have HB := hid hb
        clear hb hx hm
        go_wp2
        go_roundw
        case rel => exact ⟨k + 1, by omega, by rw [leadU_yes HB.out, List.length_append, HM.out]; simp, by go_num, by first | exact hid rfl | exact hid trivial⟩
        case measure => simp [intOf]; omega
    · obtain rfl : k = N := by omega
      go_wp2
      go_ret
      exact ⟨rfl, HB2.out⟩

set_option maxRecDepth 100000 in
set_option maxHeartbeats 2000000 in
theorem sConnected_any (N : Nat) (p : Option Addr) (n c : Nat) (es : List (Int × Int)) (w : World) (hn : es.length = n) (hn30 : n ≤ 30) (hN : N ≤ 20) (hr : SeesE w p es) (he : EndsIn N es) :
    Calls Try.prog 58 #[.agg #[.int .i64 N, .slice p n c]] w fun e w' => e = .returned (.bool (numP N es == 1)) ∧ Below w.heap.size w w' := by
  have Hn := hid hn
  have Hr := hid hr
  have EI := hid he
  obtain ⟨m, hm⟩ : ∃ m, numP N es = m := ⟨_, rfl⟩
  rw [hm]
  have HM := hid hm
  obtain ⟨r, hr1⟩ : ∃ r, (m == 1) = r := ⟨_, rfl⟩
  rw [hr1]
  have HR := hid hr1
  clear hn hr he hm hr1
  go_enter Try.func58, Try.ntmps58
  go_wp2_with fail
  refine (sParts_any N p n c es _ Hn.out hn30 hN (Hr.out.on (on_alloc _ _)) EI.out).mono ?_
  rw [HM.out]
  rintro e w2 ⟨rfl, hb2⟩
  have HB2 := hid (bfrom (w := w) (on_alloc _ _) hb2)
  have hc : ((m : Int) == 1) = r := by
    rw [← HR.out]
    cases h1 : (m == 1)
    · have : m ≠ 1 := by simpa using h1
      simp
      omega
    · have : m = 1 := by simpa using h1
      subst this
      rfl
  go_wp2
  go_ret
  exact ⟨rfl, HB2.out⟩

def fIsConnected (s : Int) (es : List (Int × Int)) : Bool × Int := if IsG s es then (numP s.toNat es == 1, 0) else (false, 1)


end Go.Proofs.Ytpadnliebimceaa
