/- Colourings in the model. -/
import Derived.Test.YtpadnliebimceaaSpecAt
import Derived.Deep.RegionHeld3
import Derived.StillTailTactics
import Derived.BigQuiet
namespace Go.Proofs.Ytpadnliebimceaa
open Go.RowKit

/-- The two ends of an edge, by number. -/
def endF (es : List (Int × Int)) (e k : Nat) : Int := if k = 0 then eA es e else eB es e
theorem reads_end {w : World} {b off e k : Nat} {es : List (Int × Int)} (h : ReadsE w b off es) (he : e < es.length) (hk : k < 2) : w.cell? ⟨b, off + e * 2 + k, none⟩ = some (.int .i64 (endF es e k)) := by
  rcases (by omega : k = 0 ∨ k = 1) with rfl | rfl
  · exact (h e he).1
  · exact (h e he).2
theorem fits_ends {es : List (Int × Int)} {c : List Int} {e : Nat} {col : Int} (h : ∀ k, k < 2 → ¬ hasC es c e (endF es e k) col) : fitsP es c e col := fits_has.2 ⟨h 0 (by omega), h 1 (by omega)⟩
theorem fits_not {es : List (Int × Int)} {c : List Int} {e k : Nat} {col : Int} (h : hasC es c e (endF es e k) col) : ¬ fitsP es c e col := fun hf => by
  have h2 := fits_has.1 hf
  by_cases hk : k = 0
  · subst hk; exact h2.1 h
  · have he : endF es e k = eB es e := by unfold endF; rw [if_neg hk]
    rw [he] at h
    exact h2.2 h
theorem end_range {s : Int} {es : List (Int × Int)} (h : IsG s es) {e k : Nat} (he : e < es.length) : 0 ≤ endF es e k ∧ endF es e k < s := by
  have h1 := h.1.2 e he
  unfold endF
  split
  · exact ⟨h1.1, h1.2.1⟩
  · exact ⟨h1.2.2.1, h1.2.2.2.1⟩

set_option maxRecDepth 100000 in
set_option maxHeartbeats 8000000 in
theorem sFits_any (s : Int) (b off n c cb co m d e : Nat) (col : Int) (es : List (Int × Int)) (cs : List Int) (w : World) (hG : IsG s es) (hn : es.length = n) (hr : ReadsE w b off es) (hm : cs.length = m) (hm2 : m ≤ 1048576) (hrc : ReadsI w cb co cs) (he : e < n) (hem : e ≤ m) :
    Calls Try.prog 94 #[.agg #[.int .i64 s, .slice (some ⟨b, off, none⟩) n c], .slice (some ⟨cb, co, none⟩) m d, .int .i64 e, .int .i64 col] w fun e' w' => e' = .returned (.bool (decide (fitsP es cs e col))) ∧ Below w.heap.size w w' := by
  have Hn := hid hn
  have Hr := hid hr
  have HG := hid hG
  have Hm := hid hm
  have Hrc := hid hrc
  have hn30 : n ≤ 30 := by have := isG_len hG; omega
  have hm9 : m ≤ 9223372036854775807 := by omega
  obtain ⟨r, hR⟩ : ∃ r : Bool, r = decide (fitsP es cs e col) := ⟨_, rfl⟩
  rw [← hR]
  have HR := hid hR
  clear hn hr hG hm hrc hR
  go_enter Try.func94, Try.ntmps94
  go_wp2
  go_loopw [9] (fun kk wr => ∃ k : Nat, k ≤ 2 ∧ kk = .int .i64 k ∧ Hid (∀ j, j < k → ¬ hasC es cs e (endF es e j) col) ∧ Hid (Below w.heap.size w wr) ∧ Hid (Box wr w.heap.size s (some ⟨b, off, none⟩) n c)) (fun kk _ => 2 - (intOf kk).toNat)
  case atStart => exact ⟨0, by omega, rfl, hid (fun j hj => by omega), hid (on_alloc _ _), hid (Box.new w s (some ⟨b, off, none⟩) n c 24)⟩
  case round =>
    obtain ⟨k, hk, rfl, hE, hB, hX⟩ := hrel
    by_cases hlt : k < 2
    · have hx := hX.out.1
      have hy := hX.out.2
      have hz := hX.out.lt
      have hce := reads_end (Hr.out.on hB.out) (by have := Hn.out; omega : e < es.length) hlt
      obtain ⟨v, hv⟩ : ∃ v, endF es e k = v := ⟨_, rfl⟩
      rw [hv] at hce
      have HV := hid hv
      clear hv
      obtain ⟨wo, rfl⟩ : ∃ wo : World, wo = wr := ⟨_, rfl⟩
      go_wp2
      go_still_tail 8, (by kernel_rfl)
      go_wp2_with fail
      refine (sAt_any _ _ _ _ _ _ es _ Hn.out hn30 (Hr.out.on hB.out.drew)).mono ?_
      rintro e' w2 ⟨q, cap, rfl, hf2, hb2⟩
      obtain ⟨hl3, hrg⟩ : (atF es v).length = 3 ∧ True := ⟨by have h := end_range HG.out (k := k) (by have := Hn.out; omega : e < es.length); rw [HV.out] at h; exact atF_three HG.out h.1 h.2, trivial⟩
      have HF2 := hid hf2
      have HB2 := hid (bfrom hB.out.drew hb2)
      have HX2 := hid (hX.out.drew.on hb2)
      rw [hl3]
      have HL3 := hid hl3
      clear hf2 hl3 hrg hx hy hz hce
      obtain ⟨g, rfl, hgq, hoq⟩ : ∃ g, q = some ⟨g, 0, none⟩ ∧ wo.heap.size ≤ g ∧ OwnI w2 g cap (atF es v) := by
        rcases HF2.out.form with ⟨_, h0, _, _⟩ | h
        · have := HL3.out; omega
        · exact h
      have HQ := hid hoq.reads
      have HRc := hid (Hrc.out.on HB2.out)
      clear hoq HF2
      go_wp2
      go_loop [11] (fun ii => ∃ i : Nat, i ≤ 3 ∧ ii = .int .i64 i ∧ Hid (∀ i', i' < i → ∀ j : Nat, j < e → eI (atF es v) i' = j → eI cs j ≠ col)) (fun ii => 3 - (intOf ii).toNat)
      case atStart => exact ⟨0, by omega, rfl, hid (fun i' hi' => by omega)⟩
      case round =>
        obtain ⟨i, hi3, rfl, hI⟩ := hrel
        by_cases hi : i < 3
        · obtain ⟨j, hj1, hj2, hj3⟩ := atF_lt (es := es) (v := v) (i := i) (by have := HL3.out; omega)
          have ha := HQ.out i (by have := HL3.out; omega)
          rw [Nat.zero_add, hj3] at ha
          have hjn : j < n := by have := Hn.out; omega
          have HJ2 := hid hj2
          have HJ3 := hid hj3
          clear hj2 hj3 hj1
          by_cases hje : j < e
          · have hd : decide (j < e) = true := by simpa using hje
            have hcj := HRc.out j (by have := Hm.out; omega)
            have hjm : (j : Int) < (m : Int) := by omega
            by_cases hcc : eI cs j = col
            · have hcc' : (eI cs j == col) = true := by simpa using hcc
              have HCC := hid hcc
              clear hcc
              go_wp2
              go_ret
              refine ⟨?_, HB2.out⟩
              rw [HR.out, decide_eq_false (fits_not (k := k) ⟨j, hje, by rw [HV.out]; exact HJ2.out, HCC.out⟩)]
              rfl
            · have hcc' : (eI cs j == col) = false := by simpa using hcc
              have HCC := hid hcc
              clear hcc
              go_wp2
              go_round
              case rel =>
                refine ⟨i + 1, by omega, by go_num, hid (fun i' hi' j' hj' e' => ?_)⟩
                rcases Nat.lt_or_ge i' i with h | h
                · exact hI.out i' h j' hj' e'
                · obtain rfl : i' = i := by omega
                  have : j' = j := by have := HJ3.out; omega
                  subst this
                  exact HCC.out
              case measure => simp [intOf]; omega
          · have hd : decide (j < e) = false := by simpa using hje
            go_wp2
            go_round
            case rel =>
              refine ⟨i + 1, by omega, by go_num, hid (fun i' hi' j' hj' e' => ?_)⟩
              rcases Nat.lt_or_ge i' i with h | h
              · exact hI.out i' h j' hj' e'
              · obtain rfl : i' = i := by omega
                have : j' = j := by have := HJ3.out; omega
                omega
            case measure => simp [intOf]; omega
        · obtain rfl : i = 3 := by omega
          go_wp2
          go_roundw
          case rel =>
            refine ⟨k + 1, by omega, by go_num, hid (fun j hj => ?_), HB2, HX2⟩
            rcases Nat.lt_or_ge j k with h | h
            · exact hE.out j h
            · obtain rfl : j = k := by omega
              rintro ⟨j', h1, h2, h3⟩
              rw [HV.out] at h2
              obtain ⟨i', hi', e'⟩ := atF_has (by have := Hn.out; omega) h2
              exact hI.out i' (by have := HL3.out; omega) j' h1 e' h3
          case measure => simp [intOf]; omega
    · obtain rfl : k = 2 := by omega
      go_wp2
      go_ret
      refine ⟨?_, hB.out⟩
      rw [HR.out, decide_eq_true (fits_ends hE.out)]
      rfl

end Go.Proofs.Ytpadnliebimceaa
