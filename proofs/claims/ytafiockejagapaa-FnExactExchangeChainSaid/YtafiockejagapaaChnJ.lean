/- ChainOf in the model and in the program. -/
import Derived.Test.YtafiockejagapaaChnS
import Derived.Test.YtafiockejagapaaChnI
import Derived.Test.YtafiockejagapaaCodeA
namespace Go.Proofs.Ytafiockejagapaa
open Go.RowKit

theorem cols_seesC {s : Int} {es : List (Int × Int)} {cs : List Int} {q : Option Addr} {w : World} (g : IsG s es) (gc : isColP es cs) (hr : SeesI w q cs) : ∃ b o, q = some ⟨b, o, none⟩ ∧ ReadsI w b o cs := by
  rcases hr with rfl | h2
  · exact absurd g.1.1.2.2.2 (by have := g.1.1.1; have := gc.1; simp at this; omega)
  · exact h2

set_option maxRecDepth 100000 in
set_option maxHeartbeats 4000000 in
theorem sGiven_any (s : Int) (p : Option Addr) (n c : Nat) (es : List (Int × Int)) (pc : Option Addr) (m d : Nat) (cs : List Int) (e b : Int) (w : World) (hm : n ≤ 1048576) (hn : es.length = n) (hr : SeesE w p es) (hm2 : m ≤ 1048576) (hl : cs.length = m) (hrc : SeesI w pc cs) :
    Calls Try.prog 64 #[.agg #[.int .i64 s, .slice p n c], .slice pc m d, .int .i64 e, .int .i64 b] w fun e' w' => e' = .returned (.int .i64 (chainCode s es cs e b)) ∧ Below w.heap.size w w' := by
  have Hn := hid hn
  have Hr := hid hr
  have Hl := hid hl
  have Hrc := hid hrc
  have Hm2 := hid hm2
  obtain ⟨q0, hq⟩ : ∃ q0, colsCode s es 1 (fun _ => cs) = q0 := ⟨_, rfl⟩
  have HQ := hid hq
  obtain ⟨r, hR⟩ : ∃ r, chainCode s es cs e b = r := ⟨_, rfl⟩
  rw [hR]
  have HR := hid hR
  clear hn hr hl hrc hq hm2 hR
  by_cases h0 : q0 = 0
  · subst h0
    have hg : IsG s es ∧ isColP es cs := by
      have h := HQ.out
      unfold colsCode at h
      by_cases g : IsG s es
      · rw [if_pos g] at h
        by_cases gc : ∀ i, i < 1 → isColP es cs
        · exact ⟨g, gc 0 (by omega)⟩
        · rw [if_neg gc] at h; exact absurd h (by decide)
      · rw [if_neg g] at h; exact absurd h (by decide)
    have HG := hid hg
    obtain ⟨cb, co, rfl, hrd⟩ := cols_seesC hg.1 hg.2 Hrc.out
    have HRd := hid hrd
    have hm30 : m ≤ 30 := by have := isG_len hg.1; have := hg.2.1; have := Hl.out; omega
    have HR2 := hid (show r = if chainP es cs e b then 0 else 2 by rw [← HR.out]; unfold chainCode; rw [if_pos hg.1, if_pos hg.2])
    have en : IntKind.i64.wrap ((m : Int) - 1) = (m : Int) - 1 := IntWalk.i64_in _ (by omega)
    clear hg hrd
    go_enter Try.func64, Try.ntmps64
    go_wp2_with fail
    refine (sCode_any _ _ _ _ _ _ _ _ es _ _ _ _ _ Hn.out (by omega) ((Hr.out.on (on_alloc _ _)).on (on_alloc _ _)) (by omega) (rows_one (by simp) Hl.out Hm2.out (SeesI.on Hrc.out (on_alloc _ _)))).mono ?_
    rw [HQ.out]
    rintro e' w2 ⟨rfl, hb2⟩
    have HB2 := hid (bfrom (w := w) (by go_grown) hb2)
    clear hb2
    by_cases h1 : 0 ≤ e ∧ e < m
    · have H1 := hid (show 0 ≤ e ∧ e ≤ (m : Int) - 1 by omega)
      obtain ⟨E, rfl⟩ : ∃ E : Nat, e = E := ⟨_, (Int.toNat_of_nonneg h1.1).symm⟩
      have hEm : E < m := by omega
      have hEm' : (E : Int) < (m : Int) := by omega
      have hcE := HRd.out.on HB2.out E (by have := Hl.out; omega)
      have hcb : cb < w2.heap.size := (HRd.out.on HB2.out).lt (by have := Hl.out; omega)
      obtain ⟨z, hz⟩ : ∃ z, eI cs E = z := ⟨_, rfl⟩
      rw [hz] at hcE
      have HZ := hid hz
      clear h1 hz
      by_cases h2 : 0 ≤ b ∧ b < 3
      · have H2 := hid (show 0 ≤ b ∧ b ≤ 2 by omega)
        clear h2
        by_cases h3 : z = b
        · have t1 : (z == b) = true := by simpa using h3
          have H3 := hid h3
          clear h3
          go_wp2_with (first
            | (go_at_call_of 84 (Value.int .i64 (E : Int)); refine (sIn_yes _ _ _ _ H1.out).mono ?_; rintro e' w' ⟨rfl, rfl⟩)
            | (go_at_call_of 84 (Value.int .i64 b); refine (sIn_yes _ _ _ _ H2.out).mono ?_; rintro e' w' ⟨rfl, rfl⟩))
          go_ret
          refine ⟨?_, HB2.out⟩
          rw [HR2.out, if_neg (fun h => h.2.2 (by rw [Int.toNat_natCast, HZ.out]; exact H3.out))]
          rfl
        · have t1 : (z == b) = false := by simpa using h3
          have H3 := hid h3
          clear h3
          go_wp2_with (first
            | (go_at_call_of 84 (Value.int .i64 (E : Int)); refine (sIn_yes _ _ _ _ H1.out).mono ?_; rintro e' w' ⟨rfl, rfl⟩)
            | (go_at_call_of 84 (Value.int .i64 b); refine (sIn_yes _ _ _ _ H2.out).mono ?_; rintro e' w' ⟨rfl, rfl⟩))
          go_ret
          refine ⟨?_, HB2.out⟩
          rw [HR2.out, if_pos ⟨⟨by omega, by rw [Hl.out]; exact hEm'⟩, ⟨H2.out.1, by have := H2.out.2; omega⟩, by rw [Int.toNat_natCast, HZ.out]; exact H3.out⟩]
          rfl
      · have H2 := hid (show b < 0 ∨ 2 < b by omega)
        clear h2
        go_wp2_with (first
          | (go_at_call_of 84 (Value.int .i64 (E : Int)); refine (sIn_yes _ _ _ _ H1.out).mono ?_; rintro e' w' ⟨rfl, rfl⟩)
          | (go_at_call_of 84 (Value.int .i64 b); refine (sIn_no _ _ _ _ H2.out).mono ?_; rintro e' w' ⟨rfl, rfl⟩))
        go_ret
        refine ⟨?_, HB2.out⟩
        rw [HR2.out, if_neg (fun h => by have := h.2.1; have := H2.out; omega)]
        rfl
    · have H1 := hid (show e < 0 ∨ (m : Int) - 1 < e by omega)
      clear h1
      go_wp2_with (go_at_call 84; refine (sIn_no _ _ _ _ H1.out).mono ?_; rintro e' w' ⟨rfl, rfl⟩)
      go_ret
      refine ⟨?_, HB2.out⟩
      rw [HR2.out, if_neg (fun h => by have h1 := h.1; rw [Hl.out] at h1; have := H1.out; omega)]
      rfl
  · have hne : (q0 != 0) = true := by simpa using h0
    have HR2 := hid (show r = q0 by
      rw [← HR.out, ← HQ.out]
      unfold chainCode colsCode
      have hq := HQ.out
      unfold colsCode at hq
      by_cases g : IsG s es
      · rw [if_pos g, if_pos g]
        by_cases gc : isColP es cs
        · rw [if_pos g, if_pos (fun _ _ => gc)] at hq
          exact absurd hq.symm h0
        · rw [if_neg gc, if_neg (fun h => gc (h 0 (by omega)))]
      · rw [if_neg g, if_neg g])
    clear h0
    go_enter Try.func64, Try.ntmps64
    go_wp2_with fail
    refine (sCode_any _ _ _ _ _ _ _ _ es _ _ _ _ _ Hn.out (by omega) ((Hr.out.on (on_alloc _ _)).on (on_alloc _ _)) (by omega) (rows_one (by simp) Hl.out Hm2.out (SeesI.on Hrc.out (on_alloc _ _)))).mono ?_
    rw [HQ.out]
    rintro e' w2 ⟨rfl, hb2⟩
    have HB2 := hid (bfrom (w := w) (by go_grown) hb2)
    clear hb2
    go_wp2
    go_ret
    exact ⟨by rw [HR2.out]; rfl, HB2.out⟩

set_option maxRecDepth 100000 in
set_option maxHeartbeats 4000000 in
theorem iGiven_any (s : Int) (p : Option Addr) (n c : Nat) (es : List (Int × Int)) (pc : Option Addr) (m d : Nat) (cs : List Int) (e b : Int) (w : World) (hm : n ≤ 1048576) (hn : es.length = n) (hr : SeesE w p es) (hm2 : m ≤ 1048576) (hl : cs.length = m) (hrc : SeesI w pc cs) :
    Calls Try.prog 66 #[.agg #[.int .i64 s, .slice p n c], .slice pc m d, .int .i64 e, .int .i64 b] w fun e' w' => e' = .returned (.int .i64 (chainCode s es cs e b)) ∧ Below w.heap.size w w' := by
  have Hn := hid hn
  have Hr := hid hr
  have Hl := hid hl
  have Hrc := hid hrc
  have Hm2 := hid hm2
  obtain ⟨q0, hq⟩ : ∃ q0, colsCode s es 1 (fun _ => cs) = q0 := ⟨_, rfl⟩
  have HQ := hid hq
  obtain ⟨r, hR⟩ : ∃ r, chainCode s es cs e b = r := ⟨_, rfl⟩
  rw [hR]
  have HR := hid hR
  clear hn hr hl hrc hq hm2 hR
  by_cases h0 : q0 = 0
  · subst h0
    have hg : IsG s es ∧ isColP es cs := by
      have h := HQ.out
      unfold colsCode at h
      by_cases g : IsG s es
      · rw [if_pos g] at h
        by_cases gc : ∀ i, i < 1 → isColP es cs
        · exact ⟨g, gc 0 (by omega)⟩
        · rw [if_neg gc] at h; exact absurd h (by decide)
      · rw [if_neg g] at h; exact absurd h (by decide)
    have HG := hid hg
    obtain ⟨cb, co, rfl, hrd⟩ := cols_seesC hg.1 hg.2 Hrc.out
    have HRd := hid hrd
    have hm30 : m ≤ 30 := by have := isG_len hg.1; have := hg.2.1; have := Hl.out; omega
    have HR2 := hid (show r = if chainP es cs e b then 0 else 2 by rw [← HR.out]; unfold chainCode; rw [if_pos hg.1, if_pos hg.2])
    clear hg hrd
    go_enter Try.func66, Try.ntmps66
    go_wp2_with fail
    refine (iCode_any _ _ _ _ _ _ _ _ es _ _ _ _ _ Hn.out hm ((Hr.out.on (on_alloc _ _)).on (on_alloc _ _)) (by omega) (rows_one (by simp) Hl.out Hm2.out (SeesI.on Hrc.out (on_alloc _ _)))).mono ?_
    rw [HQ.out]
    rintro e' w2 ⟨rfl, hb2⟩
    have HB2 := hid (bfrom (w := w) (by go_grown) hb2)
    clear hb2
    by_cases h1 : 0 ≤ e ∧ e < m
    · obtain ⟨E, rfl⟩ : ∃ E : Nat, e = E := ⟨_, (Int.toNat_of_nonneg h1.1).symm⟩
      have H1 := hid h1
      have hEm : E < m := by omega
      have hEm' : (E : Int) < (m : Int) := by omega
      have hcE := HRd.out.on HB2.out E (by have := Hl.out; omega)
      have hcb : cb < w2.heap.size := (HRd.out.on HB2.out).lt (by have := Hl.out; omega)
      obtain ⟨z, hz⟩ : ∃ z, eI cs E = z := ⟨_, rfl⟩
      rw [hz] at hcE
      have HZ := hid hz
      clear h1 hz
      by_cases h2 : 0 ≤ b ∧ b < 3
      · have H2 := hid h2
        clear h2
        by_cases h3 : z = b
        · have t1 : (b == z) = true := by simpa using h3.symm
          have H3 := hid h3
          clear h3
          go_wp2_with (first
            | (go_at_call_of 86 (Value.int .i64 (E : Int)); refine (iBelow_yes _ _ _ H1.out).mono ?_; rintro e' w' ⟨rfl, rfl⟩)
            | (go_at_call_of 86 (Value.int .i64 b); refine (iBelow_yes _ _ _ H2.out).mono ?_; rintro e' w' ⟨rfl, rfl⟩))
          go_ret
          refine ⟨?_, HB2.out⟩
          rw [HR2.out, if_neg (fun h => h.2.2 (by rw [Int.toNat_natCast, HZ.out]; exact H3.out))]
          rfl
        · have t1 : (b == z) = false := by simpa using (fun h => h3 h.symm)
          have H3 := hid h3
          clear h3
          go_wp2_with (first
            | (go_at_call_of 86 (Value.int .i64 (E : Int)); refine (iBelow_yes _ _ _ H1.out).mono ?_; rintro e' w' ⟨rfl, rfl⟩)
            | (go_at_call_of 86 (Value.int .i64 b); refine (iBelow_yes _ _ _ H2.out).mono ?_; rintro e' w' ⟨rfl, rfl⟩))
          go_ret
          refine ⟨?_, HB2.out⟩
          rw [HR2.out, if_pos ⟨⟨by omega, by rw [Hl.out]; exact hEm'⟩, H2.out, by rw [Int.toNat_natCast, HZ.out]; exact H3.out⟩]
          rfl
      · have H2 := hid h2
        clear h2
        go_wp2_with (first
          | (go_at_call_of 86 (Value.int .i64 (E : Int)); refine (iBelow_yes _ _ _ H1.out).mono ?_; rintro e' w' ⟨rfl, rfl⟩)
          | (go_at_call_of 86 (Value.int .i64 b); refine (iBelow_no _ _ _ H2.out).mono ?_; rintro e' w' ⟨rfl, rfl⟩))
        go_ret
        refine ⟨?_, HB2.out⟩
        rw [HR2.out, if_neg (fun h => H2.out h.2.1)]
        rfl
    · have H1 := hid h1
      clear h1
      go_wp2_with (go_at_call 86; refine (iBelow_no _ _ _ H1.out).mono ?_; rintro e' w' ⟨rfl, rfl⟩)
      go_ret
      refine ⟨?_, HB2.out⟩
      rw [HR2.out, if_neg (fun h => by have h1 := h.1; rw [Hl.out] at h1; exact H1.out h1)]
      rfl
  · have hne : (q0 != 0) = true := by simpa using h0
    have HR2 := hid (show r = q0 by
      rw [← HR.out, ← HQ.out]
      unfold chainCode colsCode
      have hq := HQ.out
      unfold colsCode at hq
      by_cases g : IsG s es
      · rw [if_pos g, if_pos g]
        by_cases gc : isColP es cs
        · rw [if_pos g, if_pos (fun _ _ => gc)] at hq
          exact absurd hq.symm h0
        · rw [if_neg gc, if_neg (fun h => gc (h 0 (by omega)))]
      · rw [if_neg g, if_neg g])
    clear h0
    go_enter Try.func66, Try.ntmps66
    go_wp2_with fail
    refine (iCode_any _ _ _ _ _ _ _ _ es _ _ _ _ _ Hn.out hm ((Hr.out.on (on_alloc _ _)).on (on_alloc _ _)) (by omega) (rows_one (by simp) Hl.out Hm2.out (SeesI.on Hrc.out (on_alloc _ _)))).mono ?_
    rw [HQ.out]
    rintro e' w2 ⟨rfl, hb2⟩
    have HB2 := hid (bfrom (w := w) (by go_grown) hb2)
    clear hb2
    go_wp2
    go_ret
    exact ⟨by rw [HR2.out]; rfl, HB2.out⟩


set_option maxRecDepth 100000 in
set_option maxHeartbeats 4000000 in
theorem sChainOf_no (s : Int) (p : Option Addr) (n c : Nat) (es : List (Int × Int)) (pc : Option Addr) (m d : Nat) (cs : List Int) (e b : Int) (w : World) (hm : n ≤ 1048576) (hn : es.length = n) (hr : SeesE w p es) (hm2 : m ≤ 1048576) (hl : cs.length = m) (hrc : SeesI w pc cs) (hz : chainCode s es cs e b ≠ 0) :
    Calls Try.prog 24 #[.agg #[.int .i64 s, .slice p n c], .slice pc m d, .int .i64 e, .int .i64 b] w fun e' w' => e' = .returned (.tuple #[.slice none 0 0, .int .i64 (chainCode s es cs e b)]) ∧ Below w.heap.size w w' := by
  have Hn := hid hn
  have Hr := hid hr
  have Hl := hid hl
  have Hrc := hid hrc
  obtain ⟨r, hR⟩ : ∃ r, chainCode s es cs e b = r := ⟨_, rfl⟩
  rw [hR] at hz ⊢
  have HR := hid hR
  have hne : (r != 0) = true := by simpa using hz
  clear hn hr hl hrc hR hz
  go_enter Try.func24, Try.ntmps24
  go_wp2_with fail
  refine (sGiven_any s p n c es pc m d cs e b _ hm Hn.out (Hr.out.on (on_alloc _ _)) hm2 Hl.out (Hrc.out.on (on_alloc _ _))).mono ?_
  rw [HR.out]
  rintro e' w2 ⟨rfl, hb2⟩
  go_wp2
  go_ret2
  exact ⟨rfl, bfrom (on_alloc _ _) hb2⟩

set_option maxRecDepth 100000 in
set_option maxHeartbeats 4000000 in
theorem iChainOf_no (s : Int) (p : Option Addr) (n c : Nat) (es : List (Int × Int)) (pc : Option Addr) (m d : Nat) (cs : List Int) (e b : Int) (w : World) (hm : n ≤ 1048576) (hn : es.length = n) (hr : SeesE w p es) (hm2 : m ≤ 1048576) (hl : cs.length = m) (hrc : SeesI w pc cs) (hz : chainCode s es cs e b ≠ 0) :
    Calls Try.prog 26 #[.agg #[.int .i64 s, .slice p n c], .slice pc m d, .int .i64 e, .int .i64 b] w fun e' w' => e' = .returned (.tuple #[.slice none 0 0, .int .i64 (chainCode s es cs e b)]) ∧ Below w.heap.size w w' := by
  have Hn := hid hn
  have Hr := hid hr
  have Hl := hid hl
  have Hrc := hid hrc
  obtain ⟨r, hR⟩ : ∃ r, chainCode s es cs e b = r := ⟨_, rfl⟩
  rw [hR] at hz ⊢
  have HR := hid hR
  have hne : (r != 0) = true := by simpa using hz
  clear hn hr hl hrc hR hz
  go_enter Try.func26, Try.ntmps26
  go_wp2_with fail
  refine (iGiven_any s p n c es pc m d cs e b _ hm Hn.out (Hr.out.on (on_alloc _ _)) hm2 Hl.out (Hrc.out.on (on_alloc _ _))).mono ?_
  rw [HR.out]
  rintro e' w2 ⟨rfl, hb2⟩
  go_wp2
  go_ret2
  exact ⟨rfl, bfrom (on_alloc _ _) hb2⟩

set_option maxRecDepth 100000 in
set_option maxHeartbeats 4000000 in
theorem iChainOf_yes (s : Int) (b off n c cb co m f0 E : Nat) (B : Int) (es : List (Int × Int)) (cs : List Int) (w : World) (hn : es.length = n) (hr : ReadsE w b off es) (hl : cs.length = m) (hrc : ReadsI w cb co cs) (hz : chainCode s es cs E B = 0) :
    Calls Try.prog 26 #[.agg #[.int .i64 s, .slice (some ⟨b, off, none⟩) n c], .slice (some ⟨cb, co, none⟩) m f0, .int .i64 E, .int .i64 B] w fun e' w' => ∃ q cap, e' = .returned (.tuple #[.slice q (chU es cs (eI cs E + B) E n).length cap, .int .i64 0]) ∧ FreshI w.heap.size w' q (chU es cs (eI cs E + B) E n).length cap (chU es cs (eI cs E + B) E n) ∧ Below w.heap.size w w' := by
  obtain ⟨g, gc, gp, G0⟩ := chainCode_zero hz
  rw [Int.toNat_natCast] at G0
  have hn30 : n ≤ 30 := by have := isG_len g; omega
  have HNM := hid (show m = n by rw [← hl, ← hn]; exact gc.1)
  have Hn := hid hn
  have Hr := hid hr
  have Hl := hid hl
  have Hrc := hid hrc
  have G := hid G0
  have HZ := hid hz
  obtain ⟨R, hR⟩ : ∃ R, R = chU es cs (eI cs E + B) E n := ⟨_, rfl⟩
  have HR := hid hR
  rw [← hR]
  obtain ⟨l, hlR⟩ : ∃ l, l = R.length := ⟨_, rfl⟩
  rw [← hlR]
  have HlR := hid hlR
  clear hn hr hl hrc G0 hz g gc gp hR hlR
  go_enter Try.func26, Try.ntmps26
  go_wp2_with fail
  refine (iGiven_any s _ n c es _ m f0 cs E B _ (by omega) Hn.out (SeesE.on (.inr ⟨b, off, rfl, Hr.out⟩) (on_alloc _ _)) (by have := HNM.out; omega) Hl.out (SeesI.on (.inr ⟨cb, co, rfl, Hrc.out⟩) (on_alloc _ _))).mono ?_
  rw [HZ.out]
  rintro e' w2 ⟨rfl, hb2⟩
  have HB2 := hid (bfrom (w := w) (on_alloc _ _) hb2)
  have hX2 := (Box.new w s (some ⟨b, off, none⟩) n c 30).on hb2
  have hx2 := hX2.1
  have hy2 := hX2.2
  have hz2 := hX2.lt
  have hs2 := HB2.out.size
  clear hb2 hX2
  go_wp2_with fail
  refine (iChain_any s b off n c cb co m f0 E B es cs _ Hn.out (Hr.out.on HB2.out) Hl.out (Hrc.out.on HB2.out) HNM.out G.out).mono ?_
  rw [← HR.out, ← HlR.out]
  rintro e' w3 ⟨q, cap, rfl, hf, hb3⟩
  go_wp2
  go_ret2
  exact ⟨q, cap, rfl, FreshI.less hf hs2, bfrom HB2.out hb3⟩

set_option maxRecDepth 100000 in
set_option maxHeartbeats 8000000 in
theorem sChainOf_yes (s : Int) (b off n c cb co m f0 E : Nat) (B : Int) (es : List (Int × Int)) (cs : List Int) (w : World) (hn : es.length = n) (hr : ReadsE w b off es) (hl : cs.length = m) (hrc : ReadsI w cb co cs) (hz : chainCode s es cs E B = 0) :
    Calls Try.prog 24 #[.agg #[.int .i64 s, .slice (some ⟨b, off, none⟩) n c], .slice (some ⟨cb, co, none⟩) m f0, .int .i64 E, .int .i64 B] w fun e' w' => ∃ q cap, e' = .returned (.tuple #[.slice q (chU es cs (eI cs E + B) E n).length cap, .int .i64 0]) ∧ FreshI w.heap.size w' q (chU es cs (eI cs E + B) E n).length cap (chU es cs (eI cs E + B) E n) ∧ Below w.heap.size w w' := by
  obtain ⟨g, gc, gp, G0⟩ := chainCode_zero hz
  rw [Int.toNat_natCast] at G0
  have hn30 : n ≤ 30 := by have := isG_len g; omega
  have HNM := hid (show m = n by rw [← hl, ← hn]; exact gc.1)
  have Hn := hid hn
  have Hr := hid hr
  have Hl := hid hl
  have Hrc := hid hrc
  have G := hid G0
  have HZ := hid hz
  obtain ⟨D, hD⟩ : ∃ D, D = eI cs E + B := ⟨_, rfl⟩
  have HD := hid hD
  rw [← hD]
  obtain ⟨j0, hj, hy0, hy1, hy2⟩ := info_parts infoInt
  have Hj := hid hj
  clear hn hr hl hrc G0 hz g gc gp hD hj
  go_enter Try.func24, Try.ntmps24
  go_wp2_with fail
  refine (sGiven_any s _ n c es _ m f0 cs E B _ (by omega) Hn.out (SeesE.on (.inr ⟨b, off, rfl, Hr.out⟩) (on_alloc _ _)) (by have := HNM.out; omega) Hl.out (SeesI.on (.inr ⟨cb, co, rfl, Hrc.out⟩) (on_alloc _ _))).mono ?_
  rw [HZ.out]
  rintro e' w2 ⟨rfl, hb2⟩
  have HB2 := hid (bfrom (w := w) (on_alloc _ _) hb2)
  have hX2 := (Box.new w s (some ⟨b, off, none⟩) n c 30).on hb2
  have hx2 := hX2.1
  have hy2' := hX2.2
  have hz2 := hX2.lt
  have hs2 := HB2.out.size
  clear hb2 hX2
  go_wp2_with fail
  refine (sChain_any s b off n c cb co m f0 E B es cs _ Hn.out (Hr.out.on HB2.out) Hl.out (Hrc.out.on HB2.out) HNM.out G.out).mono ?_
  rw [← HD.out]
  rintro e' w4 ⟨gM, rfl, hgM, ho4, hb4⟩
  have HO := hid ho4
  have HB4 := hid (bfrom HB2.out hb4)
  have hs4 := HB4.out.size
  have hgz := ho4.lt
  clear ho4 hb4 hx2 hy2' hz2
  obtain ⟨w5, hw5⟩ : ∃ w5, w5 = w4.alloc (.cells #[] 2) := ⟨_, rfl⟩
  go_wp2
  rw [← hw5]
  have HB5 := hid (show Below w4.heap.size w4 w5 by rw [hw5]; exact on_alloc _ _)
  have HO5 := hid (show w5.ownsRow w4.heap.size 2 1 (.slice (some ⟨w4.heap.size, 0, none⟩) 0 0) 0 (intVals (chU es cs D E 0)) by rw [hw5]; exact World.ownsRow_made (base := w4.heap.size) (e := 2) (size := 1) w4 #[] 0 (Nat.le_refl _) (Nat.zero_le _) rfl)
  clear hw5
  go_loopw [12, 13] (fun u v wx => ∃ (j l cap : Nat) (q : Option Addr), j ≤ n ∧ l ≤ j ∧ u = .slice q l cap ∧ v = .int .i64 j ∧ Hid (wx.ownsRow w4.heap.size 2 1 (.slice q l cap) l (intVals (chU es cs D E j)) ∧ (chU es cs D E j).length = l) ∧ Hid (Below w4.heap.size w4 wx)) (fun _ v _ => n - (intOf v).toNat)
  case atStart => exact ⟨0, 0, 0, _, Nat.zero_le _, Nat.zero_le _, rfl, rfl, hid ⟨HO5.out, rfl⟩, HB5⟩
  case round =>
    obtain ⟨j, l, capj, qj, hj, hlj, rfl, rfl, hOj, hBj⟩ := hrel
    clear HO5 HB5
    have hBs := hBj.out.size
    by_cases hltj : j < n
    · have hltj' : (j : Int) < (n : Int) := by omega
      have HOl := hid (HO.out.on hBj.out)
      have hcj := HOl.out.cell (i := j) (by rw [chM_len]; have := Hn.out; omega)
      rw [chM_at (by have := Hn.out; omega)] at hcj
      have hgj := HOl.out.lt
      obtain ⟨y, hy⟩ : ∃ y, chB es cs D E j = y := ⟨_, rfl⟩
      rw [hy] at hcj
      have HY := hid hy
      clear hy
      obtain ⟨wi, rfl⟩ : ∃ wi : World, wi = wr := ⟨_, rfl⟩
      cases y
      · go_wp2
        go_roundw
        case rel => exact ⟨j + 1, l, capj, qj, by omega, by omega, rfl, by go_num, hid (by rw [chU_no HY.out]; exact hOj.out), hBj⟩
        case measure => simp [intOf]; omega
      · have hl31 : l + 1 ≤ 31 := by omega
        have HRow := hid (World.ownsRow.alloc hOj.out.1 (.cells #[.int .i64 j] 2))
        have hsz := hBj.out.size
        go_wp2_with (at_builtin; go_must (refine wpList_append_lies _ rfl (.tmp 38) (.tmp 40) 36 rfl w4.heap.size 2 j0 (.int .i64 0) 1 8 Try.underlying36 Hj.out hy0 hy1 hy2 rfl (by decide) (.slice qj l capj) l _ rfl HRow.out ⟨wi.heap.size, 0, none⟩ 1 1 [.int .i64 j] rfl rfl (World.news_of_block (cs := #[.int .i64 j]) (t := 2) (fr := (0, 0)) (heap_alloc_new _ _)) (by simp [Value.oneCell']) (by decide) (by unfold maxLen; omega) (by omega) (by rw [World.size_alloc]; omega) (wi.heap.size + 1) (by rw [World.size_alloc]) ?_); intro g7 cap7 w7 hown7 hgrow7 hlie7 hg7; have Hown := hid hown7; have Hgrow := hid hgrow7; clear hown7 hgrow7 hlie7)
        have hrow : ∀ j', (Value.slice qj l capj).ownBlock = some j' → w4.heap.size ≤ j' ∧ j' < wi.heap.size := hOj.out.1.lt
        go_roundw
        case rel =>
          refine ⟨j + 1, l + 1, cap7, some ⟨g7, 0, none⟩, by omega, by omega, rfl, by go_num, hid ⟨?_, ?_⟩, hid ?_⟩
          · rw [chU_yes HY.out, intVals_append]; exact Hown.out
          · rw [chU_yes HY.out, List.length_append, hOj.out.2]; rfl
          · exact (hBj.out.alloc hsz (.cells #[.int .i64 j] 2)).grown Hgrow.out (by rw [World.size_alloc]; omega) (fun j' e => (hrow j' e).1)
        case measure => simp [intOf]; omega
    · have hjn := hid (show j = n by omega)
      have HF := hid (show FreshI w4.heap.size wr qj l capj (chU es cs D E n) by have h := hOj.out; rw [hjn.out] at h; exact h)
      have hlen : (chU es cs D E n).length = l := by have h := hOj.out.2; rw [hjn.out] at h; exact h
      have HLen := hid hlen
      clear hlen
      go_wp2
      go_ret2
      exact ⟨qj, capj, by rw [HLen.out]; rfl, by rw [HLen.out]; exact FreshI.less HF.out hs4, bfrom HB4.out hBj.out⟩

theorem sChainOf_any (s : Int) (p : Option Addr) (n c : Nat) (es : List (Int × Int)) (pc : Option Addr) (m d : Nat) (cs : List Int) (e b : Int) (w : World) (hm : n ≤ 1048576) (hn : es.length = n) (hr : SeesE w p es) (hm2 : m ≤ 1048576) (hl : cs.length = m) (hrc : SeesI w pc cs) :
    Calls Try.prog 24 #[.agg #[.int .i64 s, .slice p n c], .slice pc m d, .int .i64 e, .int .i64 b] w fun e' w' => ∃ q cap, e' = .returned (.tuple #[.slice q (fChainOf s es cs e b).1.length cap, .int .i64 (fChainOf s es cs e b).2]) ∧ FreshI w.heap.size w' q (fChainOf s es cs e b).1.length cap (fChainOf s es cs e b).1 ∧ Below w.heap.size w w' := by
  unfold fChainOf
  by_cases hz : chainCode s es cs e b = 0
  · rw [if_pos hz]
    obtain ⟨g, gc, gp, _⟩ := chainCode_zero hz
    obtain ⟨bb, off, rfl, rd⟩ := isG_sees g hr
    obtain ⟨cb, co, rfl, rc⟩ := cols_seesC g gc hrc
    obtain ⟨E, rfl⟩ : ∃ E : Nat, e = E := ⟨_, (Int.toNat_of_nonneg gp.1.1).symm⟩
    rw [Int.toNat_natCast, hn]
    exact sChainOf_yes s bb off n c cb co m d E b es cs w hn rd hl rc hz
  · rw [if_neg hz]
    exact (sChainOf_no s p n c es pc m d cs e b w hm hn hr hm2 hl hrc hz).mono fun e' w' ⟨h1, h2⟩ => ⟨none, 0, h1, FreshI.nil _ _, h2⟩

theorem iChainOf_any (s : Int) (p : Option Addr) (n c : Nat) (es : List (Int × Int)) (pc : Option Addr) (m d : Nat) (cs : List Int) (e b : Int) (w : World) (hm : n ≤ 1048576) (hn : es.length = n) (hr : SeesE w p es) (hm2 : m ≤ 1048576) (hl : cs.length = m) (hrc : SeesI w pc cs) :
    Calls Try.prog 26 #[.agg #[.int .i64 s, .slice p n c], .slice pc m d, .int .i64 e, .int .i64 b] w fun e' w' => ∃ q cap, e' = .returned (.tuple #[.slice q (fChainOf s es cs e b).1.length cap, .int .i64 (fChainOf s es cs e b).2]) ∧ FreshI w.heap.size w' q (fChainOf s es cs e b).1.length cap (fChainOf s es cs e b).1 ∧ Below w.heap.size w w' := by
  unfold fChainOf
  by_cases hz : chainCode s es cs e b = 0
  · rw [if_pos hz]
    obtain ⟨g, gc, gp, _⟩ := chainCode_zero hz
    obtain ⟨bb, off, rfl, rd⟩ := isG_sees g hr
    obtain ⟨cb, co, rfl, rc⟩ := cols_seesC g gc hrc
    obtain ⟨E, rfl⟩ : ∃ E : Nat, e = E := ⟨_, (Int.toNat_of_nonneg gp.1.1).symm⟩
    rw [Int.toNat_natCast, hn]
    exact iChainOf_yes s bb off n c cb co m d E b es cs w hn rd hl rc hz
  · rw [if_neg hz]
    exact (iChainOf_no s p n c es pc m d cs e b w hm hn hr hm2 hl hrc hz).mono fun e' w' ⟨h1, h2⟩ => ⟨none, 0, h1, FreshI.nil _ _, h2⟩

end Go.Proofs.Ytafiockejagapaa
