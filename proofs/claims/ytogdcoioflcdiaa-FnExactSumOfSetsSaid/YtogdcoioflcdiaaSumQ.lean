/- SumOfSets in the program. -/
import Derived.Test.YtogdcoioflcdiaaSetsI
import Derived.Test.YtogdcoioflcdiaaSumI
import Derived.Test.YtogdcoioflcdiaaSumS
namespace Go.Proofs.Ytogdcoioflcdiaa
open Go.RowKit

theorem sums_code (s : Int) (es : List (Int × Int)) (xs ys : List Int) : setsCode s es [xs, ys] = (fSumOfSets s es xs ys).2 := by
  unfold setsCode fSumOfSets
  by_cases g : IsG s es
  · rw [if_pos g, if_pos g]
    have h : areSetsP es.length [xs, ys] ↔ isSetP es.length xs ∧ isSetP es.length ys := by
      unfold areSetsP
      constructor
      · intro h; exact ⟨h 0 (by simp), h 1 (by simp)⟩
      · rintro ⟨h1, h2⟩ i hi
        match i, hi with
        | 0, _ => exact h1
        | 1, _ => exact h2
    by_cases gx : isSetP es.length xs
    · rw [if_pos gx]
      by_cases gy : isSetP es.length ys
      · rw [if_pos (h.2 ⟨gx, gy⟩), if_pos gy]
      · rw [if_neg (fun e => gy (h.1 e).2), if_neg gy]
    · rw [if_neg (fun e => gx (h.1 e).1), if_neg gx]
  · rw [if_neg g, if_neg g]

theorem rows_two {w : World} {pa pb : Option Addr} {ka fa kb fb G : Nat} {xs ys : List Int} (hx : xs.length = ka) (hy : ys.length = kb) (h1 : SeesI w pa xs) (h2 : SeesI w pb ys) (c0 : w.cell? ⟨G, 0, none⟩ = some (.slice pa ka fa)) (c1 : w.cell? ⟨G, 1, none⟩ = some (.slice pb kb fb)) : SeesL w (some ⟨G, 0, none⟩) [xs, ys] := by
  refine .inr ⟨G, 0, rfl, fun i hi => ?_⟩
  match i, hi with
  | 0, _ => exact ⟨pa, fa, by show w.cell? ⟨G, 0 + 0, none⟩ = some (.slice pa xs.length fa); rw [hx]; exact c0, h1⟩
  | 1, _ => exact ⟨pb, fb, by show w.cell? ⟨G, 0 + 1, none⟩ = some (.slice pb ys.length fb); rw [hy]; exact c1, h2⟩

set_option maxRecDepth 100000 in
set_option maxHeartbeats 8000000 in
theorem iSumOfSets_any (s : Int) (p : Option Addr) (n c : Nat) (es : List (Int × Int)) (pa : Option Addr) (ka fa : Nat) (xs : List Int) (pb : Option Addr) (kb fb : Nat) (ys : List Int) (w : World) (hm : n ≤ 1048576) (hn : es.length = n) (hr : SeesE w p es) (hka : ka ≤ 1048576) (hx : xs.length = ka) (hrx : SeesI w pa xs) (hkb : kb ≤ 1048576) (hy : ys.length = kb) (hry : SeesI w pb ys) (hfa : ka ≤ fa) (ha0 : pa = none → fa = 0) (hfb : kb ≤ fb) (hb0 : pb = none → fb = 0) :
    Calls Try.prog 19 #[.agg #[.int .i64 s, .slice p n c], .slice pa ka fa, .slice pb kb fb] w fun e' w' => ∃ q cap, e' = .returned (.tuple #[.slice q (fSumOfSets s es xs ys).1.length cap, .int .i64 (fSumOfSets s es xs ys).2]) ∧ FreshI w.heap.size w' q (fSumOfSets s es xs ys).1.length cap (fSumOfSets s es xs ys).1 ∧ Below w.heap.size w w' := by
  have Hn := hid hn
  have Hr := hid hr
  have Hx := hid hx
  have Hrx := hid hrx
  have Hy := hid hy
  have Hry := hid hry
  have HRA := hid (show RestI w pa ka fa xs from ⟨hrx, hx, hfa, ha0⟩)
  have HRB := hid (show RestI w pb kb fb ys from ⟨hry, hy, hfb, hb0⟩)
  have hcode := sums_code s es xs ys
  have hyes : (fSumOfSets s es xs ys).2 = 0 → symmL xs ys = (fSumOfSets s es xs ys).1 := by
    unfold fSumOfSets
    by_cases g : IsG s es
    · rw [if_pos g]
      by_cases gx : isSetP es.length xs
      · rw [if_pos gx]
        by_cases gy : isSetP es.length ys
        · rw [if_pos gy]; intro _; exact sum_symm gx gy
        · rw [if_neg gy]; intro h; cases h
      · rw [if_neg gx]; intro h; cases h
    · rw [if_neg g]; intro h; cases h
  have hno : (fSumOfSets s es xs ys).2 ≠ 0 → (fSumOfSets s es xs ys).1 = [] := by
    unfold fSumOfSets
    by_cases g : IsG s es
    · rw [if_pos g]
      by_cases gx : isSetP es.length xs
      · rw [if_pos gx]
        by_cases gy : isSetP es.length ys
        · rw [if_pos gy]; intro h; exact absurd rfl h
        · rw [if_neg gy]; intro _; rfl
      · rw [if_neg gx]; intro _; rfl
    · rw [if_neg g]; intro _; rfl
  obtain ⟨L, hL⟩ : ∃ L, (fSumOfSets s es xs ys).1 = L := ⟨_, rfl⟩
  obtain ⟨cd, hcd⟩ : ∃ cd, (fSumOfSets s es xs ys).2 = cd := ⟨_, rfl⟩
  rw [hL, hcd] at hyes
  rw [hL, hcd] at hno
  rw [hcd] at hcode
  rw [hL, hcd]
  have HCode := hid hcode
  have HYes := hid hyes
  have HNo := hid hno
  clear hn hr hx hrx hy hry hcode hyes hno hL hcd hfa ha0 hfb hb0
  go_enter Try.func19, Try.ntmps19
  go_wp2_with fail
  obtain ⟨w1, hw1⟩ : ∃ w1, w1 = w.alloc (.cells #[.int .i64 s, .slice p n c] 31) := ⟨_, rfl⟩
  have HB1 := hid (show Below w.heap.size w w1 by rw [hw1]; exact on_alloc _ _)
  have HS1 := hid (show w1.heap.size = w.heap.size + 1 by rw [hw1]; simp)
  rw [← hw1, ← HS1.out]
  clear hw1
  refine (iSets_any s p (some ⟨w1.heap.size, 0, none⟩) n c 2 2 es [xs, ys] _ hm Hn.out ((Hr.out.on HB1.out).on (on_alloc _ _)) rfl (by omega) (fun i hi => ?_) (rows_two (fa := fa) (fb := fb) Hx.out Hy.out ((Hrx.out.on HB1.out).on (on_alloc _ _)) ((Hry.out.on HB1.out).on (on_alloc _ _)) (by simp) (by simp))).mono ?_
  · match i, hi with
    | 0, _ => show xs.length ≤ _; rw [Hx.out]; exact hka
    | 1, _ => show ys.length ≤ _; rw [Hy.out]; exact hkb
  rw [HCode.out]
  rintro e w2 ⟨rfl, hb2⟩
  have HB2 := hid (bfrom (bfrom HB1.out (on_alloc _ _)) hb2)
  clear hb2
  by_cases h0 : cd = 0
  · have H0 := hid h0
    have t1 : (cd != 0) = false := by simpa using h0
    clear h0
    go_wp2_with fail
    refine (iSumOf_any pa ka fa xs pb kb fb ys _ hka hkb (HRA.out.on HB2.out) (HRB.out.on HB2.out)).mono ?_
    rw [HYes.out H0.out]
    rintro e w3 ⟨q, cap, rfl, hf3, hb3⟩
    have HF3 := hid hf3
    have HB3 := hid (bfrom HB2.out hb3)
    clear hf3 hb3
    go_wp2
    go_ret2
    exact ⟨q, cap, by rw [H0.out]; rfl, HF3.out.less HB2.out.size, HB3.out⟩
  · have H0 := hid h0
    have t1 : (cd != 0) = true := by simpa using h0
    clear h0
    go_wp2
    go_ret2
    rw [HNo.out H0.out]
    exact ⟨none, 0, rfl, FreshI.nil _ _, HB2.out⟩

end Go.Proofs.Ytogdcoioflcdiaa
