/- Even sets of edges in the program: isEvenSet. -/
import Derived.Test.YtogdcoioflcdiaaSumI
import Derived.Test.YtogdcoioflcdiaaFar
import Derived.Test.YtogdcoioflcdiaaLawsD
namespace Go.Proofs.Ytogdcoioflcdiaa
open Go.RowKit

theorem FreshI.rest {B : Nat} {w : World} {q : Option Addr} {n cap : Nat} {xs : List Int} (h : FreshI B w q n cap xs) : RestI w q n cap xs := by
  refine ⟨h.sees, h.2, ?_, fun e => ?_⟩
  · rcases h.form with ⟨_, h1, h2, _⟩ | ⟨g, _, _, ho⟩
    · omega
    · rw [← h.2]; exact ho.le
  · rcases h.form with ⟨_, _, h2, _⟩ | ⟨g, h1, _, _⟩
    · exact h2
    · rw [h1] at e; cases e
theorem ends_rest {w : World} {b off E X Y : Nat} {es : List (Int × Int)} (hr : ReadsE w b off es) (hE : E < es.length) (hX : eA es E = X) (hY : eB es E = Y) : RestI w (some ⟨b, off + E * 2, none⟩) 2 2 [(X : Int), (Y : Int)] := by
  obtain ⟨h1, h2⟩ := hr E hE
  rw [hX] at h1
  rw [hY] at h2
  refine ⟨.inr ⟨b, off + E * 2, rfl, fun i hi => ?_⟩, rfl, Nat.le_refl _, fun e => by cases e⟩
  match i, hi with
  | 0, _ => exact h1
  | 1, _ => exact h2

theorem isG_asc {s : Int} {es : List (Int × Int)} (h : IsG s es) {i : Nat} (hi : i < es.length) : eA es i < eB es i := by
  have h1 := (h.2.2 i hi).1
  have h2 := isG_ne h hi
  omega

set_option maxRecDepth 100000 in
set_option maxHeartbeats 8000000 in
theorem iEven_any (N b off n c : Nat) (ps : Option Addr) (m f : Nat) (es : List (Int × Int)) (xs : List Int) (w : World) (hn : es.length = n) (hr : ReadsE w b off es) (g : IsG N es) (hx : xs.length = m) (hrx : SeesI w ps xs) (gs : isSetP n xs) :
    Calls Try.prog 63 #[.agg #[.int .i64 N, .slice (some ⟨b, off, none⟩) n c], .slice ps m f] w fun e' w' => e' = .returned (.bool (decide (evenP N es xs))) ∧ Below w.heap.size w w' := by
  have hn30 : n ≤ 30 := by have := isG_len g; omega
  have hN20 : N ≤ 20 := by have := g.1.1.2.1; omega
  have hm30 : m ≤ 30 := by have := set_len gs; omega
  have Hn := hid hn
  have Hr := hid hr
  have Hx := hid hx
  have Hrx := hid hrx
  have G := hid g
  have GS := hid gs
  have hbl : b < w.heap.size := reads_lt hr (by have := g.1.1.2.2.2; have := g.1.1.1; omega)
  obtain ⟨r, hR⟩ : ∃ r, decide (evenP N es xs) = r := ⟨_, rfl⟩
  rw [hR]
  have HR := hid hR
  clear hn hr hx hrx g gs hR
  go_enter Try.func63, Try.ntmps63
  have HX0 := hid (Box.new w N (some ⟨b, off, none⟩) n c 31)
  have HB0 := hid (on_alloc w (.cells #[.int .i64 N, .slice (some ⟨b, off, none⟩) n c] 31))
  go_wp2
  obtain ⟨w2, hw2⟩ : ∃ w2, w2 = w.alloc (.cells #[.int .i64 N, .slice (some ⟨b, off, none⟩) n c] 31) := ⟨_, rfl⟩
  rw [← hw2] at HX0 HB0 ⊢
  clear hw2
  have hs2' := HB0.out.size
  go_loopw [5, 10] (fun u i wr => ∃ (i' l cap : Nat) (q : Option Addr), i' ≤ m ∧ u = .slice q l cap ∧ i = .int .i64 i' ∧ Hid (RestI wr q l cap (oddU N es xs i')) ∧ Hid (Below w2.heap.size w2 wr)) (fun _ i _ => m - (intOf i).toNat)
  case atStart => exact ⟨0, 0, 0, none, Nat.zero_le _, rfl, rfl, hid (by rw [oddU_zero]; exact ⟨.inl rfl, rfl, Nat.le_refl _, fun _ => rfl⟩), hid (Below.refl _ _)⟩
  case round =>
    obtain ⟨i, l, cap, q, hi, rfl, rfl, hC, hB⟩ := hrel
    have HXr := hid (HX0.out.on hB.out)
    have hyr := HXr.out.2
    have hzr := HXr.out.lt
    have HBw := hid (bfrom HB0.out hB.out)
    have hszw := HBw.out.size
    by_cases hlt : i < m
    · obtain ⟨sb, so, rfl, hrd⟩ : ∃ sb so, ps = some ⟨sb, so, none⟩ ∧ ReadsI w sb so xs := by
        rcases Hrx.out with h | h
        · have := Hx.out; rw [h] at this; simp at this; omega
        · exact h
      have hix : i < xs.length := by have := Hx.out; omega
      have hc1 := (hrd.on HBw.out) i hix
      have hsb0 := hrd.lt (show 0 < xs.length by omega)
      have hsb : sb < wr.heap.size := by omega
      have hbr : b < wr.heap.size := by omega
      have hok := (GS.out i hix).1
      obtain ⟨E, hE⟩ : ∃ E : Nat, eI xs i = E := ⟨_, (Int.toNat_of_nonneg hok.1).symm⟩
      have hEn : E < n := by omega
      have hEn' : (E : Int) < (n : Int) := by omega
      rw [hE] at hc1
      have hEl : E < es.length := by have := Hn.out; omega
      have hend := endsIn_of G.out E hEl
      obtain ⟨X, hX⟩ : ∃ X : Nat, eA es E = X := ⟨_, (Int.toNat_of_nonneg hend.1.1).symm⟩
      obtain ⟨Y, hY⟩ : ∃ Y : Nat, eB es E = Y := ⟨_, (Int.toNat_of_nonneg hend.2.1).symm⟩
      have hYN : Y < N := by have := hend.2.2; omega
      have hXY : X < Y := by have h := isG_asc G.out hEl; omega
      have HEn := hid (ends_rest (Hr.out.on HBw.out) hEl hX hY)
      have HST := hid (oddU_step (N := N) (xs := xs) (k := i) hE hX hY hXY hYN)
      clear hrd hok hE hend hX hY
      obtain ⟨wo, rfl⟩ : ∃ wo : World, wo = wr := ⟨_, rfl⟩
      go_wp2_with fail
      refine (iSumOf_any q l cap (oddU N es xs i) (some ⟨b, off + E * 2, none⟩) 2 2 [(X : Int), (Y : Int)] _ (by have h1 := hC.out.2.1; have h2 := numsB_len (fun v => decide (cntP es xs i (v : Int) % 2 = 1)) N; rw [← h1]; unfold oddU; omega) (by omega) hC.out HEn.out).mono ?_
      rw [HST.out]
      rintro e w4 ⟨q4, cap4, rfl, hf4, hb4⟩
      have HF4 := hid hf4
      have HB4 := hid hb4
      clear hf4 hb4
      go_wp2
      go_roundw
      case rel => exact ⟨i + 1, _, cap4, q4, by omega, rfl, by go_num, hid HF4.out.rest, hid (bfrom hB.out HB4.out)⟩
      case measure => simp [intOf]; omega
    · obtain rfl : i = m := by omega
      have hl := hC.out.2.1
      rw [← Hx.out] at hl
      have hev := oddU_even N es xs
      rw [hl] at hev
      have HEv := hid hev
      clear hl hev
      by_cases h0 : l = 0
      · have t1 : ((l : Int) == 0) = true := by simpa using h0
        have H0 := hid h0
        clear h0
        go_wp2
        go_ret
        refine ⟨?_, HBw.out⟩
        rw [← HR.out, decide_eq_true (HEv.out.1 H0.out)]
        rfl
      · have t1 : ((l : Int) == 0) = false := by simpa using h0
        have H0 := hid h0
        clear h0
        go_wp2
        go_ret
        refine ⟨?_, HBw.out⟩
        rw [← HR.out, decide_eq_false (fun h => H0.out (HEv.out.2 h))]
        rfl

end Go.Proofs.Ytogdcoioflcdiaa
