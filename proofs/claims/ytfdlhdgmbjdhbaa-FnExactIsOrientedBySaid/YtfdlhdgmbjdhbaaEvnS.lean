/- Even sets of edges in the model: l07Even. -/
import Derived.Test.YtfdlhdgmbjdhbaaEdgM
import Derived.Test.YtfdlhdgmbjdhbaaSumA
import Derived.Test.YtfdlhdgmbjdhbaaFar
import Derived.BigRegion
import Derived.Outline
namespace Go.Proofs.Ytfdlhdgmbjdhbaa
open Go.RowKit

/-- How many of the first k edges each vertex is on. -/
def cntL (N : Nat) (es : List (Int × Int)) (xs : List Int) (k : Nat) : List Int := (List.range N).map fun (v : Nat) => (cntP es xs k (v : Int) : Int)
theorem cntL_len (N : Nat) (es : List (Int × Int)) (xs : List Int) (k : Nat) : (cntL N es xs k).length = N := by simp [cntL]
theorem cntL_at {N : Nat} {es : List (Int × Int)} {xs : List Int} {k v : Nat} (hv : v < N) : eI (cntL N es xs k) v = cntP es xs k (v : Int) := by
  rw [eI_lt (by rw [cntL_len]; exact hv)]
  simp [cntL]
theorem ints_ext {xs ys : List Int} (hl : xs.length = ys.length) (h : ∀ i, i < xs.length → eI xs i = eI ys i) : xs = ys :=
  List.ext_getElem hl fun i h1 h2 => by rw [← eI_lt h1, ← eI_lt h2]; exact h i h1
theorem cntL_zero (N : Nat) (es : List (Int × Int)) (xs : List Int) : cntL N es xs 0 = List.replicate N 0 := by
  refine ints_ext (by simp [cntL]) fun i hi => ?_
  rw [cntL_len] at hi
  rw [cntL_at hi, eI_lt (by simpa using hi)]
  simp [cntP]
theorem cnt_two {es : List (Int × Int)} {xs : List Int} {k E X Y : Nat} (hE : eI xs k = E) (hX : eA es E = X) (hY : eB es E = Y) (v : Int) : cntP es xs (k + 1) v = cntP es xs k v + if (v = X ∨ v = Y) then 1 else 0 := by
  rw [cntP_succ, hE, Int.toNat_natCast]
  have : (onE es v E = true) = (v = X ∨ v = Y) := by
    unfold onE
    rw [hX, hY]
    simp only [Bool.or_eq_true, beq_iff_eq, eq_iff_iff]
    omega
  simp only [this]
theorem cntL_step {N : Nat} {es : List (Int × Int)} {xs : List Int} {k E X Y : Nat} (hE : eI xs k = E) (hX : eA es E = X) (hY : eB es E = Y) (hXY : X ≠ Y) (hXN : X < N) (hYN : Y < N) :
    ((cntL N es xs k).set X ((cntP es xs k (X : Int) : Int) + 1)).set Y ((cntP es xs k (Y : Int) : Int) + 1) = cntL N es xs (k + 1) := by
  refine ints_ext (by rw [List.length_set, List.length_set, cntL_len, cntL_len]) fun i hi => ?_
  rw [List.length_set, List.length_set, cntL_len] at hi
  rw [eI_set' (by rw [List.length_set, cntL_len]; exact hYN), eI_set' (by rw [cntL_len]; exact hXN), cntL_at hi, cntL_at hi, cnt_two hE hX hY]
  by_cases h1 : i = Y
  · subst h1
    rw [if_pos rfl, if_pos (.inr rfl)]
    omega
  · rw [if_neg h1]
    by_cases h2 : i = X
    · subst h2
      rw [if_pos rfl, if_pos (.inl rfl)]
      omega
    · rw [if_neg h2, if_neg (by omega)]
      omega
theorem OwnI.cellE {w : World} {g cap i : Nat} {xs : List Int} (h : OwnI w g cap xs) (hi : i < xs.length) : w.cell? ⟨g, i, none⟩ = some (.int .i64 (eI xs i)) := by
  have := h.reads i hi
  rwa [Nat.zero_add] at this

set_option maxRecDepth 100000 in
set_option maxHeartbeats 8000000 in
theorem sEven_any (N b off n c : Nat) (ps : Option Addr) (m f : Nat) (es : List (Int × Int)) (xs : List Int) (w : World) (hn : es.length = n) (hr : ReadsE w b off es) (g : IsG N es) (hx : xs.length = m) (hrx : SeesI w ps xs) (gs : isSetP n xs) :
    Calls Try.prog 119 #[.agg #[.int .i64 N, .slice (some ⟨b, off, none⟩) n c], .slice ps m f] w fun e' w' => e' = .returned (.bool (decide (evenP N es xs))) ∧ Below w.heap.size w w' := by
  have hn30 : n ≤ 30 := by have := isG_len g; omega
  have hN20 : N ≤ 20 := by have := g.1.1.2.1; omega
  have hm30 : m ≤ 30 := by have := set_len gs; omega
  have Hn := hid hn
  have Hr := hid hr
  have Hx := hid hx
  have Hrx := hid hrx
  have G := hid g
  have GS := hid gs
  have hbl : b < w.heap.size := reads_lt hr (by have := g.1.1.2.2.2; have := g.1.1.1; omega)
  obtain ⟨i0, hi, hz0, hz1, hz2⟩ := info_parts infoInt
  have Hi := hid hi
  obtain ⟨r, hR⟩ : ∃ r, decide (evenP N es xs) = r := ⟨_, rfl⟩
  rw [hR]
  have HR := hid hR
  clear hn hr hx hrx g gs hi hR
  go_enter Try.func119, Try.ntmps119
  have HX0 := hid (Box.new w N (some ⟨b, off, none⟩) n c 28)
  have HB0 := hid (on_alloc w (.cells #[.int .i64 N, .slice (some ⟨b, off, none⟩) n c] 28))
  obtain ⟨w2, hw2⟩ : ∃ w2, w2 = w.alloc (.cells #[.int .i64 N, .slice (some ⟨b, off, none⟩) n c] 28) := ⟨_, rfl⟩
  rw [← hw2] at HX0 HB0
  have hx0 := HX0.out.1
  have hz2' := HX0.out.lt
  have hs2' := HB0.out.size
  go_wp2_with (at_make; rw [← hw2]; clear hw2; refine wpList_make_full _ rfl _ _ 41 rfl w2.heap.size 2 i0 (.int .i64 0) 1 Try.underlying41 Hi.out hz0 hz1 _ _ _ _ N rfl rfl rfl rfl (by rw [hz2]; omega) (by unfold maxLen; omega) (Nat.le_refl _) ?_; intro w3 hown hgrow; have Ho := hid (OwnI.made hown); have Hb3 := hid ((Below.refl w2.heap.size w2).grown hgrow (Nat.le_refl _) (fun k e => by cases e)); clear hown hgrow)
  clear hx0
  go_loopw [6] (fun i wr => ∃ i' : Nat, i' ≤ m ∧ i = .int .i64 i' ∧ Hid (OwnI wr w2.heap.size N (cntL N es xs i')) ∧ Hid (Below w2.heap.size w2 wr)) (fun i _ => m - (intOf i).toNat)
  case atStart => exact ⟨0, Nat.zero_le _, rfl, hid (by rw [cntL_zero]; exact Ho.out), Hb3⟩
  case round =>
    obtain ⟨i, hi, rfl, hC, hB⟩ := hrel
    clear Ho Hb3
    have HXr := hid (HX0.out.on hB.out)
    have hyr := HXr.out.2
    have hzr := HXr.out.lt
    have HBw := hid (bfrom HB0.out hB.out)
    have hszw := HBw.out.size
    by_cases hlt : i < m
    · obtain ⟨sb, so, rfl, hrd⟩ : ∃ sb so, ps = some ⟨sb, so, none⟩ ∧ ReadsI w sb so xs := by
        rcases Hrx.out with h | h
        · have := Hx.out; rw [h] at this; simp at this; omega
        · exact h
      have hix : i < xs.length := by have := Hx.out; omega
      have hc1 := (hrd.on HBw.out) i hix
      have hsb0 := hrd.lt (show 0 < xs.length by omega)
      have hsb : sb < wr.heap.size := by omega
      have hsne : sb ≠ w2.heap.size := by omega
      have hbr : b < wr.heap.size := by omega
      have hbne : b ≠ w2.heap.size := by omega
      have hgz := hC.out.lt
      have hok := (GS.out i hix).1
      obtain ⟨E, hE⟩ : ∃ E : Nat, eI xs i = E := ⟨_, (Int.toNat_of_nonneg hok.1).symm⟩
      have hEn : E < n := by omega
      have hEn' : (E : Int) < (n : Int) := by omega
      rw [hE] at hc1
      have hEl : E < es.length := by have := Hn.out; omega
      have hrd2 := (Hr.out.on HBw.out) E hEl
      have hc2 := hrd2.1
      have hc3 := hrd2.2
      have hend := endsIn_of G.out E hEl
      have hne := isG_ne G.out hEl
      obtain ⟨X, hX⟩ : ∃ X : Nat, eA es E = X := ⟨_, (Int.toNat_of_nonneg hend.1.1).symm⟩
      obtain ⟨Y, hY⟩ : ∃ Y : Nat, eB es E = Y := ⟨_, (Int.toNat_of_nonneg hend.2.1).symm⟩
      rw [hX] at hc2
      rw [hY] at hc3
      have hXN : X < N := by have := hend.1.2; omega
      have hYN : Y < N := by have := hend.2.2; omega
      have hXY : X ≠ Y := by omega
      have hXN' : (X : Int) < (N : Int) := by omega
      have hYN' : (Y : Int) < (N : Int) := by omega
      have hcX := hC.out.cellE (i := X) (by rw [cntL_len]; exact hXN)
      rw [cntL_at hXN] at hcX
      have hcY := hC.out.cellE (i := Y) (by rw [cntL_len]; exact hYN)
      rw [cntL_at hYN] at hcY
      have hfX := hC.out.free X
      have hfY := hC.out.free Y
      have hleX := cntP_le es xs i (X : Int)
      have hleY := cntP_le es xs i (Y : Int)
      have HST := hid (cntL_step (N := N) (xs := xs) (k := i) hE hX hY hXY hXN hYN)
      obtain ⟨CX, hCX⟩ : ∃ CX, cntP es xs i (X : Int) = CX := ⟨_, rfl⟩
      obtain ⟨CY, hCY⟩ : ∃ CY, cntP es xs i (Y : Int) = CY := ⟨_, rfl⟩
      rw [hCX] at hcX hleX HST
      rw [hCY] at hcY hleY HST
      have e1 : IntKind.i64.wrap ((CX : Int) + 1) = (CX : Int) + 1 := IntWalk.i64_in _ (by omega)
      have e2 : IntKind.i64.wrap ((CY : Int) + 1) = (CY : Int) + 1 := IntWalk.i64_in _ (by omega)
      clear hrd hok hE hrd2 hend hne hX hY hCX hCY
      obtain ⟨wo, rfl⟩ : ∃ wo : World, wo = wr := ⟨_, rfl⟩
      have hgne : w.heap.size ≠ w2.heap.size := by omega
      have hYX : Y ≠ X := Ne.symm hXY
      go_wp2
      go_region
      go_wp2
      go_region
      go_wp2
      go_roundw
      case rel => exact ⟨i + 1, by omega, by go_num, hid (by rw [← HST.out]; exact ((hC.out.keep rfl).set (by rw [cntL_len]; exact hXN) _).set (by rw [List.length_set, cntL_len]; exact hYN) _), hid (by first | exact bdn.mpr ((hB.out.setCell (p := ⟨w2.heap.size, X, none⟩) (Nat.le_refl _) _).setCell (p := ⟨w2.heap.size, Y, none⟩) (Nat.le_refl _) _) | exact ((hB.out.setCell (p := ⟨w2.heap.size, X, none⟩) (Nat.le_refl _) _).setCell (p := ⟨w2.heap.size, Y, none⟩) (Nat.le_refl _) _).drew | exact ((hB.out.setCell (p := ⟨w2.heap.size, X, none⟩) (Nat.le_refl _) _).setCell (p := ⟨w2.heap.size, Y, none⟩) (Nat.le_refl _) _).drew.drew)⟩
      case measure => simp [intOf]; omega
    · obtain rfl : i = m := by omega
      have hBw := HBw
      clear HBw
      go_wp2
      go_loop [7] (fun v => ∃ v' : Nat, v' ≤ N ∧ v = .int .i64 v' ∧ Hid (∀ u, u < v' → cntP es xs xs.length (u : Int) % 2 = 0)) (fun v => N - (intOf v).toNat)
      case atStart => exact ⟨0, Nat.zero_le _, rfl, hid (fun u hu => by omega)⟩
      case round =>
        obtain ⟨v, hv, rfl, hE⟩ := hrel
        by_cases hltv : v < N
        · have hcv := hC.out.cellE (i := v) (by rw [cntL_len]; exact hltv)
          rw [cntL_at hltv] at hcv
          have hcl := cntP_le es xs i (v : Int)
          have HCV := hid (show cntP es xs xs.length (v : Int) = cntP es xs i (v : Int) by rw [Hx.out])
          obtain ⟨CV, hCV⟩ : ∃ CV, cntP es xs i (v : Int) = CV := ⟨_, rfl⟩
          rw [hCV] at hcv hcl HCV
          clear hCV
          by_cases hp : CV % 2 = 0
          · have t1 : ((CV : Int) % 2 != 0) = false := by simp; omega
            have HP := hid hp
            clear hp
            go_wp2
            go_round
            case rel =>
              refine ⟨v + 1, by omega, by go_num, hid (fun u hu => ?_)⟩
              rcases Nat.lt_or_ge u v with h | h
              · exact hE.out u h
              · rw [show u = v by omega, HCV.out]; exact HP.out
            case measure => simp [intOf]; omega
          · have t1 : ((CV : Int) % 2 != 0) = true := by simp; omega
            have HP := hid hp
            clear hp
            go_wp2
            go_ret
            refine ⟨?_, hBw.out⟩
            rw [← HR.out, decide_eq_false (fun h => HP.out (by rw [← HCV.out]; exact h v hltv))]
            rfl
        · have HE := hid (show evenP N es xs from fun u hu => hE.out u (by omega))
          go_wp2
          go_ret
          refine ⟨?_, hBw.out⟩
          rw [← HR.out, decide_eq_true HE.out]
          rfl

end Go.Proofs.Ytfdlhdgmbjdhbaa
