/- IsCycle: both sides. -/
import Derived.Test.YtfdlhdgmbjdhbaaCyM
import Derived.Test.YtfdlhdgmbjdhbaaCycO
import Derived.Test.YtfdlhdgmbjdhbaaEvnS
import Derived.Test.YtfdlhdgmbjdhbaaEvnI
import Derived.Test.YtfdlhdgmbjdhbaaEdgI

/- Whether a set of edges is a cycle: the functions in the model and in the program. -/
namespace Go.Proofs.Ytfdlhdgmbjdhbaa
open Go.RowKit

/-- A set of edges is a cycle. -/
def cycP (N : Nat) (es : List (Int × Int)) (xs : List Int) : Prop := evenP N es xs ∧ (cycX es xs xs.length).length = 1
instance (N : Nat) (es : List (Int × Int)) (xs : List Int) : Decidable (cycP N es xs) := by unfold cycP; infer_instance
def fIsCycle (s : Int) (es : List (Int × Int)) (xs : List Int) : Bool × Int := if IsG s es then (if isSetP es.length xs then (decide (cycP s.toNat es xs), 0) else (false, 2)) else (false, 1)

set_option maxRecDepth 100000 in
set_option maxHeartbeats 4000000 in
theorem iIsCyc_any (N b off n c : Nat) (ps : Option Addr) (m f : Nat) (es : List (Int × Int)) (xs : List Int) (w : World) (hn : es.length = n) (hr : ReadsE w b off es) (g : IsG N es) (hx : xs.length = m) (hrx : SeesI w ps xs) (gs : isSetP n xs) :
    Calls Try.prog 92 #[.agg #[.int .i64 N, .slice (some ⟨b, off, none⟩) n c], .slice ps m f] w fun e' w' => e' = .returned (.bool (decide (cycP N es xs))) ∧ Below w.heap.size w w' := by
  have hev := iEven_any N b off n c ps m f es xs (w.alloc (.cells #[.int .i64 N, .slice (some ⟨b, off, none⟩) n c] 28)) hn (hr.on (on_alloc _ _)) g hx (hrx.on (on_alloc _ _)) gs
  have hX0 := Box.new w N (some ⟨b, off, none⟩) n c 28
  by_cases he : evenP N es xs
  · rw [decide_eq_true he] at hev
    have HC := hid (fun (w2 : World) (hb : Below w.heap.size w w2) => iCycO_any N b off n c m f ps es xs w2 hn (hr.on hb) g hx (hrx.on hb) gs he)
    have HEv := hid hev
    have HX0 := hid hX0
    have hlen := cycX_len es xs m
    obtain ⟨K, hK⟩ : ∃ K, (cycX es xs m).length = K := ⟨_, rfl⟩
    have hKm : K ≤ 30 := by have := set_len gs; have := isG_len g; omega
    have hp : cycP N es xs ↔ K = 1 := by
      unfold cycP
      rw [hx, hK]
      exact ⟨fun h => h.2, fun h => ⟨he, h⟩⟩
    have HP := hid hp
    have HK := hid hK
    clear hn hr g hx hrx gs hev hX0 he hp hK hlen
    by_cases h1 : K = 1
    all_goals
      have H1 := hid h1
      first
        | have t1 : ((K : Int) == 1) = true := by simp; omega
        | have t1 : ((K : Int) == 1) = false := by simp; omega
      clear h1
      go_enter Try.func92, Try.ntmps92
      go_wp2_with fail
      refine HEv.out.mono ?_
      rintro e w2 ⟨rfl, hb2⟩
      have hX2 := HX0.out.on hb2
      have hx2 := hX2.1
      have hy2 := hX2.2
      have hz2 := hX2.lt
      have HB2 := hid (bfrom (w := w) (on_alloc _ _) hb2)
      clear hX2 hb2
      go_wp2_with fail
      refine (HC.out w2 HB2.out).mono ?_
      rintro e w3 ⟨q, cap, ba, rfl, _, _, _, hb3⟩
      have HB3 := hid (bfrom HB2.out hb3)
      rw [HK.out]
      clear hb3 hx2 hy2 hz2
      go_wp2
      go_ret
      refine ⟨?_, HB3.out⟩
      first
        | (rw [decide_eq_true (HP.out.2 H1.out)]; rfl)
        | (rw [decide_eq_false (fun h => H1.out (HP.out.1 h))]; rfl)
  · rw [decide_eq_false he] at hev
    have HEv := hid hev
    have hp : decide (cycP N es xs) = false := decide_eq_false (fun h => he h.1)
    rw [hp]
    clear hn hr g hx hrx gs hev hX0 he hp
    go_enter Try.func92, Try.ntmps92
    go_wp2_with fail
    refine HEv.out.mono ?_
    rintro e w2 ⟨rfl, hb2⟩
    have HB2 := hid (bfrom (w := w) (on_alloc _ _) hb2)
    clear hb2
    go_wp2
    go_ret
    exact ⟨rfl, HB2.out⟩

set_option maxRecDepth 100000 in
set_option maxHeartbeats 4000000 in
theorem sIsCyc_any (N b off n c : Nat) (ps : Option Addr) (m f : Nat) (es : List (Int × Int)) (xs : List Int) (w : World) (hn : es.length = n) (hr : ReadsE w b off es) (g : IsG N es) (hx : xs.length = m) (hrx : SeesI w ps xs) (gs : isSetP n xs) :
    Calls Try.prog 90 #[.agg #[.int .i64 N, .slice (some ⟨b, off, none⟩) n c], .slice ps m f] w fun e' w' => e' = .returned (.bool (decide (cycP N es xs))) ∧ Below w.heap.size w w' := by
  have hm9 : m ≤ 9223372036854775807 := by have := set_len gs; have := isG_len g; omega
  have hev := sEven_any N b off n c ps m f es xs (w.alloc (.cells #[.int .i64 N, .slice (some ⟨b, off, none⟩) n c] 28)) hn (hr.on (on_alloc _ _)) g hx (hrx.on (on_alloc _ _)) gs
  have hX0 := Box.new w N (some ⟨b, off, none⟩) n c 28
  by_cases hm0 : 0 < m
  · have d1 : decide ((0 : Int) < (m : Int)) = true := by simpa using hm0
    by_cases he : evenP N es xs
    · rw [decide_eq_true he] at hev
      have HC := hid (fun (w2 : World) (hb : Below w.heap.size w w2) => sCyc7_any N b off n c ps m f es xs w2 hn (hr.on hb) g hx (hrx.on hb) gs he)
      have HEv := hid hev
      have HX0 := hid hX0
      have hlen := cycX_len es xs m
      obtain ⟨K, hK⟩ : ∃ K, (cycX es xs m).length = K := ⟨_, rfl⟩
      have hKm : K ≤ 30 := by have := set_len gs; have := isG_len g; omega
      have hp : cycP N es xs ↔ K = 1 := by
        unfold cycP
        rw [hx, hK]
        exact ⟨fun h => h.2, fun h => ⟨he, h⟩⟩
      have HP := hid hp
      have HK := hid hK
      clear hn hr g hx hrx gs hev hX0 he hp hK hlen
      by_cases h1 : K = 1
      all_goals
        have H1 := hid h1
        first
          | have t1 : ((K : Int) == 1) = true := by simp; omega
          | have t1 : ((K : Int) == 1) = false := by simp; omega
        clear h1
        go_enter Try.func90, Try.ntmps90
        go_wp2_with fail
        refine HEv.out.mono ?_
        rintro e w2 ⟨rfl, hb2⟩
        have hX2 := HX0.out.on hb2
        have hx2 := hX2.1
        have hy2 := hX2.2
        have hz2 := hX2.lt
        have HB2 := hid (bfrom (w := w) (on_alloc _ _) hb2)
        clear hX2 hb2
        go_wp2_with fail
        refine (HC.out w2 HB2.out).mono ?_
        rintro e w3 ⟨q, cap, vals, rfl, _, hb3⟩
        have HB3 := hid (bfrom HB2.out hb3)
        rw [HK.out]
        clear hb3 hx2 hy2 hz2
        go_wp2
        go_ret
        refine ⟨?_, HB3.out⟩
        first
          | (rw [decide_eq_true (HP.out.2 H1.out)]; rfl)
          | (rw [decide_eq_false (fun h => H1.out (HP.out.1 h))]; rfl)
    · rw [decide_eq_false he] at hev
      have HEv := hid hev
      have hp : decide (cycP N es xs) = false := decide_eq_false (fun h => he h.1)
      rw [hp]
      clear hn hr g hx hrx gs hev hX0 he hp
      go_enter Try.func90, Try.ntmps90
      go_wp2_with fail
      refine HEv.out.mono ?_
      rintro e w2 ⟨rfl, hb2⟩
      have HB2 := hid (bfrom (w := w) (on_alloc _ _) hb2)
      clear hb2
      go_wp2
      go_ret
      exact ⟨rfl, HB2.out⟩
  · have d1 : decide ((0 : Int) < (m : Int)) = false := by simp; omega
    have hp : decide (cycP N es xs) = false := decide_eq_false (fun h => by
      have h1 := h.2
      have h2 := cycX_len es xs xs.length
      omega)
    rw [hp]
    clear hn hr g hx hrx gs hev hX0 hp
    go_enter Try.func90, Try.ntmps90
    go_wp2
    go_ret
    exact ⟨rfl, on_alloc _ _⟩

end Go.Proofs.Ytfdlhdgmbjdhbaa

namespace Go.Proofs.Ytfdlhdgmbjdhbaa
open Go.RowKit







end Go.Proofs.Ytfdlhdgmbjdhbaa
