/- AreAlike in the model. -/
import Derived.Test.YtkcljjbjlhageabAlikeS
namespace Go.Proofs.Ytkcljjbjlhageab
open Go.RowKit

/-- Two lists, by their number. -/
def two (xs ys : List Int) : Nat → List Int := fun i => if i = 0 then xs else ys
theorem code_two {s : Int} {es : List (Int × Int)} {xs ys : List Int} : colsCode s es 2 (two xs ys) = if IsG s es then (if isColP es xs ∧ isColP es ys then 0 else 2) else 1 := by
  unfold colsCode
  by_cases g : IsG s es
  · rw [if_pos g, if_pos g]
    by_cases h : isColP es xs ∧ isColP es ys
    · rw [if_pos h, if_pos (fun i hi => by rcases (by omega : i = 0 ∨ i = 1) with rfl | rfl; exact h.1; exact h.2)]
    · rw [if_neg h, if_neg (fun k => h ⟨k 0 (by omega), k 1 (by omega)⟩)]
  · rw [if_neg g, if_neg g]

set_option maxRecDepth 100000 in
set_option maxHeartbeats 4000000 in
theorem sAlike_code (s q0 : Int) (p pa pb : Option Addr) (n c m d k f : Nat) (es : List (Int × Int)) (xs ys : List Int) (w : World) (hn : es.length = n) (hm : n ≤ 9223372036854775807) (hr : SeesE w p es) (hla : xs.length = m) (hma : m ≤ 1048576) (hra : SeesI w pa xs) (hlb : ys.length = k) (hmb : k ≤ 1048576) (hrb : SeesI w pb ys) (hq : colsCode s es 2 (two xs ys) = q0) (hne : (q0 != 0) = true) :
    Calls Try.prog 35 #[.agg #[.int .i64 s, .slice p n c], .slice pa m d, .slice pb k f] w fun e' w' => e' = .returned (.tuple #[.bool false, .int .i64 q0]) ∧ Below w.heap.size w w' := by
  have Hn := hid hn
  have Hr := hid hr
  have Hla := hid hla
  have Hma := hid hma
  have Hra := hid hra
  have Hlb := hid hlb
  have Hmb := hid hmb
  have Hrb := hid hrb
  have HQ := hid hq
  clear hn hr hla hma hra hlb hmb hrb hq
  go_enter Try.func35, Try.ntmps35
  go_wp2_with fail
  refine (sCode_any _ _ _ _ _ _ _ _ es _ _ _ (two xs ys) _ Hn.out hm ((Hr.out.on (on_alloc _ _)).on (on_alloc _ _)) (by omega) (rows_two (by simp) Hla.out Hma.out (Hra.out.on (on_alloc _ _)) Hlb.out Hmb.out (Hrb.out.on (on_alloc _ _)))).mono ?_
  rw [HQ.out]
  rintro e w2 ⟨rfl, hb2⟩
  have hB2 := bfrom (w := w) (by go_grown) hb2
  go_wp2
  go_ret2
  exact ⟨rfl, hB2⟩

set_option maxRecDepth 100000 in
set_option maxHeartbeats 4000000 in
theorem sAlike_yes (s : Int) (b off n c ab ao d bb bo f : Nat) (es : List (Int × Int)) (xs ys : List Int) (w : World) (hn : es.length = n) (hr : ReadsE w b off es) (hla : xs.length = n) (hra : ReadsI w ab ao xs) (hlb : ys.length = n) (hrb : ReadsI w bb bo ys) (g : IsG s es) (ga : isColP es xs) (gb : isColP es ys) :
    Calls Try.prog 35 #[.agg #[.int .i64 s, .slice (some ⟨b, off, none⟩) n c], .slice (some ⟨ab, ao, none⟩) n d, .slice (some ⟨bb, bo, none⟩) n f] w fun e' w' => e' = .returned (.tuple #[.bool (normL xs == normL ys), .int .i64 0]) ∧ Below w.heap.size w w' := by
  have hn30 : n ≤ 30 := by have := isG_len g; omega
  have hq : colsCode s es 2 (two xs ys) = 0 := by rw [code_two, if_pos g, if_pos ⟨ga, gb⟩]
  have hn0 : 0 < n := by have := three_le g; omega
  have Hn := hid hn
  have Hr := hid hr
  have Hla := hid hla
  have Hra := hid hra
  have Hlb := hid hlb
  have Hrb := hid hrb
  have G := hid g
  have Ga := hid ga
  have Gb := hid gb
  have HQ := hid hq
  obtain ⟨r, hR⟩ : ∃ r : Bool, (normL xs == normL ys) = r := ⟨_, rfl⟩
  rw [hR]
  have HR := hid hR
  clear hn hr hla hra hlb hrb g ga gb hq hR
  go_enter Try.func35, Try.ntmps35
  go_wp2_with fail
  refine (sCode_any _ _ _ _ _ _ _ _ es _ _ _ (two xs ys) _ Hn.out (by omega) ((SeesE.on (.inr ⟨b, off, rfl, Hr.out⟩) (on_alloc _ _)).on (on_alloc _ _)) (by omega) (rows_two (by simp) Hla.out (by omega) (SeesI.on (.inr ⟨ab, ao, rfl, Hra.out⟩) (on_alloc _ _)) Hlb.out (by omega) (SeesI.on (.inr ⟨bb, bo, rfl, Hrb.out⟩) (on_alloc _ _)))).mono ?_
  rw [HQ.out]
  rintro e w2 ⟨rfl, hb2⟩
  have HB2 := hid (bfrom (w := w) (bfrom (on_alloc _ _) (on_alloc _ _)) hb2)
  have HX2 := hid (((Box.new w s (some ⟨b, off, none⟩) n c 31).on (on_alloc _ _)).on hb2)
  clear hb2
  have hx := HX2.out.1
  have hy := HX2.out.2
  have hz := HX2.out.lt
  go_wp2
  go_region_held3 (fun w' => w'.cell? ⟨w.heap.size, 0, none⟩ = some (.int .i64 s) ∧ w'.cell? ⟨w.heap.size, 1, none⟩ = some (.slice (some ⟨b, off, none⟩) n c))
    (go_keep)
    (first
      | (go_at_call_of 65 (Value.slice (some ⟨ab, ao, none⟩) n d); refine (sMade_cols s b off n c ab ao d es xs _ Hn.out ?_ Hla.out ?_ G.out Ga.out).mono ?_; (exact (Hr.out.on HB2.out).on (by have := Below.refl w2.heap.size w2; go_grown)); (exact (Hra.out.on HB2.out).on (by have := Below.refl w2.heap.size w2; go_grown)); rintro e' wa ⟨qa, ca, rfl, hfa, hba⟩; have HFA := hid hfa; have hBA : Below w2.heap.size w2 wa := bfrom (by have := Below.refl w2.heap.size w2; go_grown) hba; obtain ⟨ha1, ha2⟩ := HX2.out.on hBA)
      | (go_at_call_of 65 (Value.slice (some ⟨bb, bo, none⟩) n f); refine (sMade_cols s b off n c bb bo f es ys _ Hn.out ?_ Hlb.out ?_ G.out Gb.out).mono ?_; (exact (Hr.out.on HB2.out).on (by have := Below.refl w2.heap.size w2; go_grown)); (exact (Hrb.out.on HB2.out).on (by have := Below.refl w2.heap.size w2; go_grown)); rintro e' wb ⟨qb, cb, rfl, hfb, hbb⟩; have HFB := hid hfb; have hBB : Below w2.heap.size w2 wb := bfrom (by have := Below.refl w2.heap.size w2; go_grown) hbb; obtain ⟨hb1, hb2⟩ := HX2.out.on hBB)
      | (go_at_call 64; refine (sSame_sees qa qb n ca cb (normL xs) (normL ys) _ HFA.out.2 HFB.out.2 hn0 (by omega) ?_ ?_).mono ?_; (first | exact HFA.out.sees | exact (HFA.out.on hbb).sees); (first | exact HFB.out.sees | exact (HFB.out.on hba).sees); rw [HR.out]; rintro e' wc ⟨rfl, hbc⟩; have hBC : Below w2.heap.size w2 wc := (by first | exact bfrom hBA hbc | exact bfrom hBB hbc); obtain ⟨hc1, hc2⟩ := HX2.out.on hBC))
  all_goals
    go_wp2
    go_ret2
    exact ⟨rfl, bfrom HB2.out hBC⟩

theorem sAreAlike_any (s : Int) (p : Option Addr) (n c : Nat) (es : List (Int × Int)) (pa : Option Addr) (m d : Nat) (xs : List Int) (pb : Option Addr) (k f : Nat) (ys : List Int) (w : World) (hm : n ≤ 1048576) (hn : es.length = n) (hr : SeesE w p es) (hma : m ≤ 1048576) (hla : xs.length = m) (hra : SeesI w pa xs) (hmb : k ≤ 1048576) (hlb : ys.length = k) (hrb : SeesI w pb ys) :
    Calls Try.prog 35 #[.agg #[.int .i64 s, .slice p n c], .slice pa m d, .slice pb k f] w fun e' w' => e' = .returned (.tuple #[.bool (fAreAlike s es xs ys).1, .int .i64 (fAreAlike s es xs ys).2]) ∧ Below w.heap.size w w' := by
  unfold fAreAlike
  by_cases g : IsG s es
  · rw [if_pos g]
    by_cases gc : isColP es xs ∧ isColP es ys
    · rw [if_pos gc]
      obtain ⟨b, off, rfl, rd⟩ := isG_sees g hr
      have h3 := three_le g
      obtain rfl : m = n := by rw [← hla, ← hn]; exact gc.1.1
      obtain rfl : k = m := by rw [← hlb, ← hn]; exact gc.2.1
      obtain ⟨ab, ao, rfl, ra⟩ := sees_some hla (by omega) hra
      obtain ⟨bb, bo, rfl, rb⟩ := sees_some hlb (by omega) hrb
      exact sAlike_yes s b off k c ab ao d bb bo f es xs ys w hn rd hla ra hlb rb g gc.1 gc.2
    · rw [if_neg gc]
      exact sAlike_code s 2 p pa pb n c m d k f es xs ys w hn (by omega) hr hla hma hra hlb hmb hrb (by rw [code_two, if_pos g, if_neg gc]) rfl
  · rw [if_neg g]
    exact sAlike_code s 1 p pa pb n c m d k f es xs ys w hn (by omega) hr hla hma hra hlb hmb hrb (by rw [code_two, if_neg g]) rfl

end Go.Proofs.Ytkcljjbjlhageab
