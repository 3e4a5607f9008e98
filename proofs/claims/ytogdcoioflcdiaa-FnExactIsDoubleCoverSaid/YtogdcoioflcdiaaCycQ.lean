/- IsCycle: both sides. -/
import Derived.Test.YtogdcoioflcdiaaCyM
import Derived.Test.YtogdcoioflcdiaaCycO
import Derived.Test.YtogdcoioflcdiaaEvnS
import Derived.Test.YtogdcoioflcdiaaEvnI
import Derived.Test.YtogdcoioflcdiaaEdgI

/- Whether a set of edges is a cycle: the functions in the model and in the program. -/
namespace Go.Proofs.Ytogdcoioflcdiaa
open Go.RowKit

/-- A set of edges is a cycle. -/
def cycP (N : Nat) (es : List (Int × Int)) (xs : List Int) : Prop := evenP N es xs ∧ (cycX es xs xs.length).length = 1
instance (N : Nat) (es : List (Int × Int)) (xs : List Int) : Decidable (cycP N es xs) := by unfold cycP; infer_instance
def fIsCycle (s : Int) (es : List (Int × Int)) (xs : List Int) : Bool × Int := if IsG s es then (if isSetP es.length xs then (decide (cycP s.toNat es xs), 0) else (false, 2)) else (false, 1)

set_option maxRecDepth 100000 in
set_option maxHeartbeats 4000000 in
theorem iIsCyc_any (N b off n c : Nat) (ps : Option Addr) (m f : Nat) (es : List (Int × Int)) (xs : List Int) (w : World) (hn : es.length = n) (hr : ReadsE w b off es) (g : IsG N es) (hx : xs.length = m) (hrx : SeesI w ps xs) (gs : isSetP n xs) :
    Calls Try.prog 67 #[.agg #[.int .i64 N, .slice (some ⟨b, off, none⟩) n c], .slice ps m f] w fun e' w' => e' = .returned (.bool (decide (cycP N es xs))) ∧ Below w.heap.size w w' := by
  have hev := iEven_any N b off n c ps m f es xs (w.alloc (.cells #[.int .i64 N, .slice (some ⟨b, off, none⟩) n c] 31)) hn (hr.on (on_alloc _ _)) g hx (hrx.on (on_alloc _ _)) gs
  have hX0 := Box.new w N (some ⟨b, off, none⟩) n c 31
  by_cases he : evenP N es xs
  · rw [decide_eq_true he] at hev
    have HC := hid (fun (w2 : World) (hb : Below w.heap.size w w2) => iCycO_any N b off n c m f ps es xs w2 hn (hr.on hb) g hx (hrx.on hb) gs he)
    have HEv := hid hev
    have HX0 := hid hX0
    have hlen := cycX_len es xs m
    obtain ⟨K, hK⟩ : ∃ K, (cycX es xs m).length = K := ⟨_, rfl⟩
    have hKm : K ≤ 30 := by have := set_len gs; have := isG_len g; omega
    have hp : cycP N es xs ↔ K = 1 := by
      unfold cycP
      rw [hx, hK]
      exact ⟨fun h => h.2, fun h => ⟨he, h⟩⟩
    have HP := hid hp
    have HK := hid hK
    clear hn hr g hx hrx gs hev hX0 he hp hK hlen
    by_cases h1 : K = 1
    all_goals
      have H1 := hid h1
      first
        | have t1 : ((K : Int) == 1) = true := by simp; omega
        | have t1 : ((K : Int) == 1) = false := by simp; omega
      clear h1
      go_enter Try.func67, Try.ntmps67
      go_wp2_with fail
      refine HEv.out.mono ?_
      rintro e w2 ⟨rfl, hb2⟩
      have hX2 := HX0.out.on hb2
      have hx2 := hX2.1
      have hy2 := hX2.2
      have hz2 := hX2.lt
      have HB2 := hid (bfrom (w := w) (on_alloc _ _) hb2)
      clear hX2 hb2
      go_wp2_with fail
      refine (HC.out w2 HB2.out).mono ?_
      rintro e w3 ⟨q, cap, ba, rfl, _, _, _, hb3⟩
      have HB3 := hid (bfrom HB2.out hb3)
      rw [HK.out]
      clear hb3 hx2 hy2 hz2
      go_wp2
      go_ret
      refine ⟨?_, HB3.out⟩
      first
        | (rw [decide_eq_true (HP.out.2 H1.out)]; rfl)
        | (rw [decide_eq_false (fun h => H1.out (HP.out.1 h))]; rfl)
  · rw [decide_eq_false he] at hev
    have HEv := hid hev
    have hp : decide (cycP N es xs) = false := decide_eq_false (fun h => he h.1)
    rw [hp]
    clear hn hr g hx hrx gs hev hX0 he hp
    go_enter Try.func67, Try.ntmps67
    go_wp2_with fail
    refine HEv.out.mono ?_
    rintro e w2 ⟨rfl, hb2⟩
    have HB2 := hid (bfrom (w := w) (on_alloc _ _) hb2)
    clear hb2
    go_wp2
    go_ret
    exact ⟨rfl, HB2.out⟩

set_option maxRecDepth 100000 in
set_option maxHeartbeats 4000000 in
theorem sIsCyc_any (N b off n c : Nat) (ps : Option Addr) (m f : Nat) (es : List (Int × Int)) (xs : List Int) (w : World) (hn : es.length = n) (hr : ReadsE w b off es) (g : IsG N es) (hx : xs.length = m) (hrx : SeesI w ps xs) (gs : isSetP n xs) :
    Calls Try.prog 66 #[.agg #[.int .i64 N, .slice (some ⟨b, off, none⟩) n c], .slice ps m f] w fun e' w' => e' = .returned (.bool (decide (cycP N es xs))) ∧ Below w.heap.size w w' := by
  have hm9 : m ≤ 9223372036854775807 := by have := set_len gs; have := isG_len g; omega
  have hev := sEven_any N b off n c ps m f es xs (w.alloc (.cells #[.int .i64 N, .slice (some ⟨b, off, none⟩) n c] 31)) hn (hr.on (on_alloc _ _)) g hx (hrx.on (on_alloc _ _)) gs
  have hX0 := Box.new w N (some ⟨b, off, none⟩) n c 31
  by_cases hm0 : 0 < m
  · have d1 : decide ((0 : Int) < (m : Int)) = true := by simpa using hm0
    by_cases he : evenP N es xs
    · rw [decide_eq_true he] at hev
      have HC := hid (fun (w2 : World) (hb : Below w.heap.size w w2) => sCyc7_any N b off n c ps m f es xs w2 hn (hr.on hb) g hx (hrx.on hb) gs he)
      have HEv := hid hev
      have HX0 := hid hX0
      have hlen := cycX_len es xs m
      obtain ⟨K, hK⟩ : ∃ K, (cycX es xs m).length = K := ⟨_, rfl⟩
      have hKm : K ≤ 30 := by have := set_len gs; have := isG_len g; omega
      have hp : cycP N es xs ↔ K = 1 := by
        unfold cycP
        rw [hx, hK]
        exact ⟨fun h => h.2, fun h => ⟨he, h⟩⟩
      have HP := hid hp
      have HK := hid hK
      clear hn hr g hx hrx gs hev hX0 he hp hK hlen
      by_cases h1 : K = 1
      all_goals
        have H1 := hid h1
        first
          | have t1 : ((K : Int) == 1) = true := by simp; omega
          | have t1 : ((K : Int) == 1) = false := by simp; omega
        clear h1
        go_enter Try.func66, Try.ntmps66
        go_wp2_with fail
        refine HEv.out.mono ?_
        rintro e w2 ⟨rfl, hb2⟩
        have hX2 := HX0.out.on hb2
        have hx2 := hX2.1
        have hy2 := hX2.2
        have hz2 := hX2.lt
        have HB2 := hid (bfrom (w := w) (on_alloc _ _) hb2)
        clear hX2 hb2
        go_wp2_with fail
        refine (HC.out w2 HB2.out).mono ?_
        rintro e w3 ⟨q, cap, vals, rfl, _, hb3⟩
        have HB3 := hid (bfrom HB2.out hb3)
        rw [HK.out]
        clear hb3 hx2 hy2 hz2
        go_wp2
        go_ret
        refine ⟨?_, HB3.out⟩
        first
          | (rw [decide_eq_true (HP.out.2 H1.out)]; rfl)
          | (rw [decide_eq_false (fun h => H1.out (HP.out.1 h))]; rfl)
    · rw [decide_eq_false he] at hev
      have HEv := hid hev
      have hp : decide (cycP N es xs) = false := decide_eq_false (fun h => he h.1)
      rw [hp]
      clear hn hr g hx hrx gs hev hX0 he hp
      go_enter Try.func66, Try.ntmps66
      go_wp2_with fail
      refine HEv.out.mono ?_
      rintro e w2 ⟨rfl, hb2⟩
      have HB2 := hid (bfrom (w := w) (on_alloc _ _) hb2)
      clear hb2
      go_wp2
      go_ret
      exact ⟨rfl, HB2.out⟩
  · have d1 : decide ((0 : Int) < (m : Int)) = false := by simp; omega
    have hp : decide (cycP N es xs) = false := decide_eq_false (fun h => by
      have h1 := h.2
      have h2 := cycX_len es xs xs.length
      omega)
    rw [hp]
    clear hn hr g hx hrx gs hev hX0 hp
    go_enter Try.func66, Try.ntmps66
    go_wp2
    go_ret
    exact ⟨rfl, on_alloc _ _⟩

end Go.Proofs.Ytogdcoioflcdiaa

namespace Go.Proofs.Ytogdcoioflcdiaa
open Go.RowKit

set_option maxRecDepth 100000 in
set_option maxHeartbeats 4000000 in
theorem sIsCycle_code (s q0 : Int) (p ps : Option Addr) (n c k f : Nat) (es : List (Int × Int)) (xs : List Int) (w : World) (hm : n ≤ 1048576) (hn : es.length = n) (hr : SeesE w p es) (hk9 : k ≤ 1048576) (hx : xs.length = k) (hrx : SeesI w ps xs) (hq : edgesCode s es xs = q0) (hne : (q0 != 0) = true) :
    Calls Try.prog 32 #[.agg #[.int .i64 s, .slice p n c], .slice ps k f] w fun e' w' => e' = .returned (.tuple #[.bool false, .int .i64 q0]) ∧ Below w.heap.size w w' := by
  have Hn := hid hn
  have Hr := hid hr
  have Hx := hid hx
  have Hrx := hid hrx
  have HQ := hid hq
  clear hn hr hx hrx hq
  go_enter Try.func32, Try.ntmps32
  go_wp2_with fail
  refine (sEdges_any _ _ _ _ _ _ _ es xs _ hm Hn.out (Hr.out.on (on_alloc _ _)) hk9 Hx.out (Hrx.out.on (on_alloc _ _))).mono ?_
  rw [HQ.out]
  rintro e w2 ⟨rfl, hb2⟩
  have HB2 := hid (bfrom (w := w) (on_alloc _ _) hb2)
  clear hb2
  go_wp2
  go_ret2
  exact ⟨rfl, HB2.out⟩

set_option maxRecDepth 100000 in
set_option maxHeartbeats 4000000 in
theorem sIsCycle_yes (N : Nat) (b off n c k f : Nat) (ps : Option Addr) (es : List (Int × Int)) (xs : List Int) (w : World) (hn : es.length = n) (hr : ReadsE w b off es) (g : IsG N es) (hk9 : k ≤ 1048576) (hx : xs.length = k) (hrx : SeesI w ps xs) (gs : isSetP n xs) :
    Calls Try.prog 32 #[.agg #[.int .i64 N, .slice (some ⟨b, off, none⟩) n c], .slice ps k f] w fun e' w' => e' = .returned (.tuple #[.bool (decide (cycP N es xs)), .int .i64 0]) ∧ Below w.heap.size w w' := by
  have hn30 : n ≤ 30 := by have := isG_len g; omega
  have Hn := hid hn
  have Hr := hid hr
  have G := hid g
  have Hx := hid hx
  have Hrx := hid hrx
  have GS := hid gs
  have HQ := hid (show edgesCode N es xs = 0 by unfold edgesCode setCode; rw [if_pos g, hn, if_pos gs])
  clear hn hr g hx hrx gs
  go_enter Try.func32, Try.ntmps32
  go_wp2_with fail
  refine (sEdges_any _ _ _ _ _ _ _ es xs _ (by omega) Hn.out (SeesE.on (.inr ⟨b, off, rfl, Hr.out⟩) (on_alloc _ _)) hk9 Hx.out (Hrx.out.on (on_alloc _ _))).mono ?_
  rw [HQ.out]
  rintro e w3 ⟨rfl, hb3⟩
  have HB3 := hid (bfrom (w := w) (on_alloc _ _) hb3)
  have hX3 := (Box.new w N (some ⟨b, off, none⟩) n c 31).on hb3
  have hx3 := hX3.1
  have hy3 := hX3.2
  have hz3 := hX3.lt
  clear hX3 hb3
  go_wp2_with fail
  refine (sIsCyc_any N b off n c ps k f es xs _ Hn.out (Hr.out.on HB3.out) G.out Hx.out (Hrx.out.on HB3.out) GS.out).mono ?_
  rintro e w4 ⟨rfl, hb4⟩
  have HB4 := hid (bfrom HB3.out hb4)
  clear hx3 hy3 hz3 hb4
  go_wp2
  go_ret2
  exact ⟨rfl, HB4.out⟩

theorem sIsCycle_any (s : Int) (p : Option Addr) (n c : Nat) (es : List (Int × Int)) (ps : Option Addr) (k f : Nat) (xs : List Int) (w : World) (hm : n ≤ 1048576) (hn : es.length = n) (hr : SeesE w p es) (hk : k ≤ 1048576) (hx : xs.length = k) (hrx : SeesI w ps xs) :
    Calls Try.prog 32 #[.agg #[.int .i64 s, .slice p n c], .slice ps k f] w fun e' w' => e' = .returned (.tuple #[.bool (fIsCycle s es xs).1, .int .i64 (fIsCycle s es xs).2]) ∧ Below w.heap.size w w' := by
  unfold fIsCycle
  by_cases g : IsG s es
  · rw [if_pos g]
    obtain ⟨N, rfl⟩ : ∃ N : Nat, s = N := ⟨_, (Int.toNat_of_nonneg (by have := g.1.1.1; omega)).symm⟩
    rw [Int.toNat_natCast]
    by_cases gs : isSetP es.length xs
    · rw [if_pos gs]
      obtain ⟨b, off, rfl, rd⟩ := isG_sees g hr
      exact sIsCycle_yes N b off n c k f ps es xs w hn rd g hk hx hrx (by rw [← hn]; exact gs)
    · rw [if_neg gs]
      exact sIsCycle_code N 2 p ps n c k f es xs w hm hn hr hk hx hrx (by unfold edgesCode setCode; rw [if_pos g, if_neg gs]) rfl
  · rw [if_neg g]
    exact sIsCycle_code s 1 p ps n c k f es xs w hm hn hr hk hx hrx (by unfold edgesCode; rw [if_neg g]) rfl

set_option maxRecDepth 100000 in
set_option maxHeartbeats 4000000 in
theorem iIsCycle_code (s q0 : Int) (p ps : Option Addr) (n c k f : Nat) (es : List (Int × Int)) (xs : List Int) (w : World) (hm : n ≤ 1048576) (hn : es.length = n) (hr : SeesE w p es) (hk9 : k ≤ 1048576) (hx : xs.length = k) (hrx : SeesI w ps xs) (hq : edgesCode s es xs = q0) (hne : (q0 != 0) = true) :
    Calls Try.prog 33 #[.agg #[.int .i64 s, .slice p n c], .slice ps k f] w fun e' w' => e' = .returned (.tuple #[.bool false, .int .i64 q0]) ∧ Below w.heap.size w w' := by
  have Hn := hid hn
  have Hr := hid hr
  have Hx := hid hx
  have Hrx := hid hrx
  have HQ := hid hq
  clear hn hr hx hrx hq
  go_enter Try.func33, Try.ntmps33
  go_wp2_with fail
  refine (iCodeE_any _ _ _ _ _ _ _ es xs _ hm Hn.out (Hr.out.on (on_alloc _ _)) hk9 Hx.out (Hrx.out.on (on_alloc _ _))).mono ?_
  rw [HQ.out]
  rintro e w2 ⟨rfl, hb2⟩
  have HB2 := hid (bfrom (w := w) (on_alloc _ _) hb2)
  clear hb2
  go_wp2
  go_ret2
  exact ⟨rfl, HB2.out⟩

set_option maxRecDepth 100000 in
set_option maxHeartbeats 4000000 in
theorem iIsCycle_yes (N : Nat) (b off n c k f : Nat) (ps : Option Addr) (es : List (Int × Int)) (xs : List Int) (w : World) (hn : es.length = n) (hr : ReadsE w b off es) (g : IsG N es) (hk9 : k ≤ 1048576) (hx : xs.length = k) (hrx : SeesI w ps xs) (gs : isSetP n xs) :
    Calls Try.prog 33 #[.agg #[.int .i64 N, .slice (some ⟨b, off, none⟩) n c], .slice ps k f] w fun e' w' => e' = .returned (.tuple #[.bool (decide (cycP N es xs)), .int .i64 0]) ∧ Below w.heap.size w w' := by
  have hn30 : n ≤ 30 := by have := isG_len g; omega
  have Hn := hid hn
  have Hr := hid hr
  have G := hid g
  have Hx := hid hx
  have Hrx := hid hrx
  have GS := hid gs
  have HQ := hid (show edgesCode N es xs = 0 by unfold edgesCode setCode; rw [if_pos g, hn, if_pos gs])
  clear hn hr g hx hrx gs
  go_enter Try.func33, Try.ntmps33
  go_wp2_with fail
  refine (iCodeE_any _ _ _ _ _ _ _ es xs _ (by omega) Hn.out (SeesE.on (.inr ⟨b, off, rfl, Hr.out⟩) (on_alloc _ _)) hk9 Hx.out (Hrx.out.on (on_alloc _ _))).mono ?_
  rw [HQ.out]
  rintro e w3 ⟨rfl, hb3⟩
  have HB3 := hid (bfrom (w := w) (on_alloc _ _) hb3)
  have hX3 := (Box.new w N (some ⟨b, off, none⟩) n c 31).on hb3
  have hx3 := hX3.1
  have hy3 := hX3.2
  have hz3 := hX3.lt
  clear hX3 hb3
  go_wp2_with fail
  refine (iIsCyc_any N b off n c ps k f es xs _ Hn.out (Hr.out.on HB3.out) G.out Hx.out (Hrx.out.on HB3.out) GS.out).mono ?_
  rintro e w4 ⟨rfl, hb4⟩
  have HB4 := hid (bfrom HB3.out hb4)
  clear hx3 hy3 hz3 hb4
  go_wp2
  go_ret2
  exact ⟨rfl, HB4.out⟩

theorem iIsCycle_any (s : Int) (p : Option Addr) (n c : Nat) (es : List (Int × Int)) (ps : Option Addr) (k f : Nat) (xs : List Int) (w : World) (hm : n ≤ 1048576) (hn : es.length = n) (hr : SeesE w p es) (hk : k ≤ 1048576) (hx : xs.length = k) (hrx : SeesI w ps xs) :
    Calls Try.prog 33 #[.agg #[.int .i64 s, .slice p n c], .slice ps k f] w fun e' w' => e' = .returned (.tuple #[.bool (fIsCycle s es xs).1, .int .i64 (fIsCycle s es xs).2]) ∧ Below w.heap.size w w' := by
  unfold fIsCycle
  by_cases g : IsG s es
  · rw [if_pos g]
    obtain ⟨N, rfl⟩ : ∃ N : Nat, s = N := ⟨_, (Int.toNat_of_nonneg (by have := g.1.1.1; omega)).symm⟩
    rw [Int.toNat_natCast]
    by_cases gs : isSetP es.length xs
    · rw [if_pos gs]
      obtain ⟨b, off, rfl, rd⟩ := isG_sees g hr
      exact iIsCycle_yes N b off n c k f ps es xs w hn rd g hk hx hrx (by rw [← hn]; exact gs)
    · rw [if_neg gs]
      exact iIsCycle_code N 2 p ps n c k f es xs w hm hn hr hk hx hrx (by unfold edgesCode setCode; rw [if_pos g, if_neg gs]) rfl
  · rw [if_neg g]
    exact iIsCycle_code s 1 p ps n c k f es xs w hm hn hr hk hx hrx (by unfold edgesCode; rw [if_neg g]) rfl

end Go.Proofs.Ytogdcoioflcdiaa
