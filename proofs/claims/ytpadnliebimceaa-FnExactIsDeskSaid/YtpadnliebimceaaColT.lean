/- The model's test of colourings. -/
import Derived.Test.YtpadnliebimceaaColS
namespace Go.Proofs.Ytpadnliebimceaa
open Go.RowKit

set_option maxRecDepth 100000 in
set_option maxHeartbeats 2000000 in
theorem sColIs_len (s : Int) (p q : Option Addr) (n c m d : Nat) (w : World) (_hn : n ≤ 9223372036854775807) (_hm : m ≤ 9223372036854775807) (h : ¬ m = n) :
    Calls Try.prog 42 #[.agg #[.int .i64 s, .slice p n c], .slice q m d] w fun e' w' => e' = .returned (.bool false) ∧ Below w.heap.size w w' := by
  have h1 : ((m : Int) != (n : Int)) = true := by simp; omega
  clear h
  go_enter Try.func42, Try.ntmps42
  go_wp2
  go_ret
  exact ⟨rfl, by go_grown⟩

set_option maxRecDepth 100000 in
set_option maxHeartbeats 8000000 in
theorem sColIs_loop (s : Int) (b off n c cb co d : Nat) (es : List (Int × Int)) (cs : List Int) (w : World) (hG : IsG s es) (hn : es.length = n) (hr : ReadsE w b off es) (hm : cs.length = n) (hrc : ReadsI w cb co cs) :
    Calls Try.prog 42 #[.agg #[.int .i64 s, .slice (some ⟨b, off, none⟩) n c], .slice (some ⟨cb, co, none⟩) n d] w fun e' w' => e' = .returned (.bool (decide (isColP es cs))) ∧ Below w.heap.size w w' := by
  have Hn := hid hn
  have Hr := hid hr
  have HG := hid hG
  have Hm := hid hm
  have Hrc := hid hrc
  have hn30 : n ≤ 30 := by have := isG_len hG; omega
  have h1 : ((n : Int) != (n : Int)) = false := by simp
  obtain ⟨r, hR⟩ : ∃ r : Bool, r = decide (isColP es cs) := ⟨_, rfl⟩
  rw [← hR]
  have HR := hid hR
  clear hn hr hG hm hrc hR
  go_enter Try.func42, Try.ntmps42
  go_wp2
  go_loopw [5] (fun ee wr => ∃ e : Nat, e ≤ n ∧ ee = .int .i64 e ∧ Hid (∀ j, j < e → okCol es cs j) ∧ Hid (Below w.heap.size w wr) ∧ Hid (Box wr w.heap.size s (some ⟨b, off, none⟩) n c)) (fun ee _ => n - (intOf ee).toNat)
  case atStart => exact ⟨0, by omega, rfl, hid (fun j hj => by omega), hid (on_alloc _ _), hid (Box.new w s (some ⟨b, off, none⟩) n c 24)⟩
  case round =>
    obtain ⟨e, he, rfl, hE, hB, hX⟩ := hrel
    by_cases hlt : e < n
    · have hx := hX.out.1
      have hy := hX.out.2
      have hz := hX.out.lt
      have hce := Hrc.out.on hB.out e (by have := Hm.out; omega)
      have hcl : cb < wr.heap.size := (Hrc.out.on hB.out).lt (by have := Hm.out; omega)
      obtain ⟨v, hv⟩ : ∃ v, eI cs e = v := ⟨_, rfl⟩
      rw [hv] at hce
      have HV := hid hv
      clear hv
      obtain ⟨wo, rfl⟩ : ∃ wo : World, wo = wr := ⟨_, rfl⟩
      by_cases g1 : 0 ≤ v ∧ v ≤ 2
      · have G1 := hid g1
        clear g1
        have HRe := hid (Hr.out.on hB.out)
        have HRc := hid (Hrc.out.on hB.out)
        obtain ⟨f, hf⟩ : ∃ f : Bool, decide (fitsP es cs e v) = f := ⟨_, rfl⟩
        have HF := hid hf
        clear hf
        cases f
        all_goals
          go_wp2
          go_region_held3 (fun w' => w'.cell? ⟨cb, co + e, none⟩ = some (.int .i64 v) ∧ w'.cell? ⟨w.heap.size, 0, none⟩ = some (.int .i64 s) ∧ w'.cell? ⟨w.heap.size, 1, none⟩ = some (.slice (some ⟨b, off, none⟩) n c))
            (first | go_keep | (exact ⟨hk1, hk2, hk3⟩))
            (first
              | (go_at_call 49; refine (sIn_yes _ _ _ _ G1.out).mono ?_; rintro e' w' ⟨rfl, rfl⟩)
              | (go_at_call 94; refine (sFits_any _ _ _ _ _ _ _ _ _ _ _ es cs _ HG.out Hn.out (HRe.out.keep (w' := World.drew _) rfl) Hm.out (by omega) (HRc.out.keep (w' := World.drew _) rfl) hlt (by omega)).mono ?_; rw [HF.out]; rintro e' w2 ⟨rfl, hb2⟩; have hk1 := ((bcells hb2).1 _ _ (show cb < wo.drew.heap.size from hcl)).trans hce; have hk2 := ((bcells hb2).1 _ _ (show w.heap.size < wo.drew.heap.size from hz)).trans hx; have hk3 := ((bcells hb2).1 _ _ (show w.heap.size < wo.drew.heap.size from hz)).trans hy))
          go_wp2
        · go_ret
          refine ⟨?_, bfrom hB.out.drew hb2⟩
          rw [HR.out, decide_eq_false (fun h => by have h2 := (h.2 e (by have := Hn.out; omega)).2; rw [HV.out] at h2; exact of_decide_eq_false HF.out h2)]
          rfl
        · go_roundw
          case rel =>
            refine ⟨e + 1, by omega, by go_num, hid (fun j hj => ?_), hid (bfrom hB.out.drew hb2), hid (hX.out.drew.on hb2)⟩
            rcases Nat.lt_or_ge j e with h | h
            · exact hE.out j h
            · obtain rfl : j = e := by omega
              refine ⟨?_, ?_⟩
              · rw [HV.out]; have := G1.out; omega
              · rw [HV.out]; exact of_decide_eq_true HF.out
          case measure => simp [intOf]; omega
      · have g1' : v < 0 ∨ 2 < v := by omega
        have G1 := hid g1'
        clear g1 g1'
        go_wp2
        go_quiet ((go_at_call 49; exact quiet_same (sIn_no _ _ _ _ G1.out)))
        go_wp2
        go_ret
        refine ⟨?_, by simp only [bdn]; exact hB.out⟩
        rw [HR.out, decide_eq_false (fun h => by have h2 := (h.2 e (by have := Hn.out; omega)).1; rw [HV.out] at h2; have := G1.out; omega)]
        rfl
    · obtain rfl : e = n := by omega
      go_wp2
      go_ret
      refine ⟨?_, hB.out⟩
      rw [HR.out, decide_eq_true (show isColP es cs from ⟨Hm.out.trans Hn.out.symm, fun j hj => hE.out j (by have := Hn.out; omega)⟩)]
      rfl

theorem sColIs_any (s : Int) (p q : Option Addr) (n c m d : Nat) (es : List (Int × Int)) (cs : List Int) (w : World) (hG : IsG s es) (hn : es.length = n) (hr : SeesE w p es) (hm : cs.length = m) (hm2 : m ≤ 1048576) (hrc : SeesI w q cs) :
    Calls Try.prog 42 #[.agg #[.int .i64 s, .slice p n c], .slice q m d] w fun e' w' => e' = .returned (.bool (decide (isColP es cs))) ∧ Below w.heap.size w w' := by
  have hl := isG_len hG
  by_cases h : m = n
  · subst h
    obtain ⟨b, off, rfl, rd⟩ := isG_sees hG hr
    obtain ⟨cb, co, rfl, rc⟩ : ∃ b o, q = some ⟨b, o, none⟩ ∧ ReadsI w b o cs := by
      rcases hrc with rfl | h2
      · exact absurd hG.1.1.2.2.2 (by have := hG.1.1.1; simp at hm; omega)
      · exact h2
    exact sColIs_loop s b off m c cb co d es cs w hG hn rd hm rc
  · refine (sColIs_len s p q n c m d w (by omega) (by omega) h).mono fun e w' ⟨he, hb⟩ => ⟨?_, hb⟩
    rw [he, decide_eq_false (fun e => h (by rw [← hm, ← hn]; exact e.1))]




end Go.Proofs.Ytpadnliebimceaa
