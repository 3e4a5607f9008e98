/- ExchangeChain in the model and in the program: the walks. -/
import Derived.Test.YtafiockejagapaaExB
namespace Go.Proofs.Ytafiockejagapaa
open Go.RowKit

set_option maxRecDepth 100000 in
set_option maxHeartbeats 4000000 in
theorem sExchangeChain_no (s : Int) (p : Option Addr) (n c : Nat) (es : List (Int × Int)) (pc : Option Addr) (m d : Nat) (cs : List Int) (e b : Int) (w : World) (hm : n ≤ 1048576) (hn : es.length = n) (hr : SeesE w p es) (hm2 : m ≤ 1048576) (hl : cs.length = m) (hrc : SeesI w pc cs) (hz : chainCode s es cs e b ≠ 0) :
    Calls Try.prog 31 #[.agg #[.int .i64 s, .slice p n c], .slice pc m d, .int .i64 e, .int .i64 b] w fun e' w' => e' = .returned (.tuple #[.slice none 0 0, .int .i64 (chainCode s es cs e b)]) ∧ Below w.heap.size w w' := by
  have Hn := hid hn
  have Hr := hid hr
  have Hl := hid hl
  have Hrc := hid hrc
  obtain ⟨r, hR⟩ : ∃ r, chainCode s es cs e b = r := ⟨_, rfl⟩
  rw [hR] at hz ⊢
  have HR := hid hR
  have hne : (r != 0) = true := by simpa using hz
  clear hn hr hl hrc hR hz
  go_enter Try.func31, Try.ntmps31
  go_wp2_with fail
  refine (sGiven_any s p n c es pc m d cs e b _ hm Hn.out (Hr.out.on (on_alloc _ _)) hm2 Hl.out (Hrc.out.on (on_alloc _ _))).mono ?_
  rw [HR.out]
  rintro e' w2 ⟨rfl, hb2⟩
  go_wp2
  go_ret2
  exact ⟨rfl, bfrom (on_alloc _ _) hb2⟩

set_option maxRecDepth 100000 in
set_option maxHeartbeats 4000000 in
theorem iExchangeChain_no (s : Int) (p : Option Addr) (n c : Nat) (es : List (Int × Int)) (pc : Option Addr) (m d : Nat) (cs : List Int) (e b : Int) (w : World) (hm : n ≤ 1048576) (hn : es.length = n) (hr : SeesE w p es) (hm2 : m ≤ 1048576) (hl : cs.length = m) (hrc : SeesI w pc cs) (hz : chainCode s es cs e b ≠ 0) :
    Calls Try.prog 32 #[.agg #[.int .i64 s, .slice p n c], .slice pc m d, .int .i64 e, .int .i64 b] w fun e' w' => e' = .returned (.tuple #[.slice none 0 0, .int .i64 (chainCode s es cs e b)]) ∧ Below w.heap.size w w' := by
  have Hn := hid hn
  have Hr := hid hr
  have Hl := hid hl
  have Hrc := hid hrc
  obtain ⟨r, hR⟩ : ∃ r, chainCode s es cs e b = r := ⟨_, rfl⟩
  rw [hR] at hz ⊢
  have HR := hid hR
  have hne : (r != 0) = true := by simpa using hz
  clear hn hr hl hrc hR hz
  go_enter Try.func32, Try.ntmps32
  go_wp2_with fail
  refine (iGiven_any s p n c es pc m d cs e b _ hm Hn.out (Hr.out.on (on_alloc _ _)) hm2 Hl.out (Hrc.out.on (on_alloc _ _))).mono ?_
  rw [HR.out]
  rintro e' w2 ⟨rfl, hb2⟩
  go_wp2
  go_ret2
  exact ⟨rfl, bfrom (on_alloc _ _) hb2⟩

set_option maxRecDepth 100000 in
set_option maxHeartbeats 4000000 in
theorem sExchangeChain_yes (s : Int) (b off n c cb co m f0 E : Nat) (B : Int) (es : List (Int × Int)) (cs : List Int) (w : World) (hn : es.length = n) (hr : ReadsE w b off es) (hl : cs.length = m) (hrc : ReadsI w cb co cs) (hz : chainCode s es cs E B = 0) :
    Calls Try.prog 31 #[.agg #[.int .i64 s, .slice (some ⟨b, off, none⟩) n c], .slice (some ⟨cb, co, none⟩) m f0, .int .i64 E, .int .i64 B] w fun e' w' => ∃ q cap, e' = .returned (.tuple #[.slice q n cap, .int .i64 0]) ∧ FreshI w.heap.size w' q n cap (exU es cs (eI cs E + B) E n) ∧ Below w.heap.size w w' := by
  obtain ⟨g, gc, gp, G0⟩ := chainCode_zero hz
  rw [Int.toNat_natCast] at G0
  have hn30 : n ≤ 30 := by have := isG_len g; omega
  have HNM := hid (show m = n by rw [← hl, ← hn]; exact gc.1)
  have Hn := hid hn
  have Hr := hid hr
  have Hl := hid hl
  have Hrc := hid hrc
  have G := hid G0
  have HZ := hid hz
  obtain ⟨R, hR⟩ : ∃ R, R = exU es cs (eI cs E + B) E n := ⟨_, rfl⟩
  have HR := hid hR
  rw [← hR]
  clear hn hr hl hrc G0 hz g gc gp hR
  go_enter Try.func31, Try.ntmps31
  go_wp2_with fail
  refine (sGiven_any s _ n c es _ m f0 cs E B _ (by omega) Hn.out (SeesE.on (.inr ⟨b, off, rfl, Hr.out⟩) (on_alloc _ _)) (by have := HNM.out; omega) Hl.out (SeesI.on (.inr ⟨cb, co, rfl, Hrc.out⟩) (on_alloc _ _))).mono ?_
  rw [HZ.out]
  rintro e' w2 ⟨rfl, hb2⟩
  have HB2 := hid (bfrom (w := w) (on_alloc _ _) hb2)
  have hX2 := (Box.new w s (some ⟨b, off, none⟩) n c 30).on hb2
  have hx2 := hX2.1
  have hy2 := hX2.2
  have hz2 := hX2.lt
  have hs2 := HB2.out.size
  clear hb2 hX2
  go_wp2_with fail
  refine (sExch_any s b off n c cb co m f0 E B es cs _ Hn.out (Hr.out.on HB2.out) Hl.out (Hrc.out.on HB2.out) HNM.out G.out).mono ?_
  rw [← HR.out]
  rintro e' w3 ⟨q, cap, rfl, hf, hb3⟩
  go_wp2
  go_ret2
  exact ⟨q, cap, rfl, FreshI.less hf hs2, bfrom HB2.out hb3⟩

set_option maxRecDepth 100000 in
set_option maxHeartbeats 4000000 in
theorem iExchangeChain_yes (s : Int) (b off n c cb co m f0 E : Nat) (B : Int) (es : List (Int × Int)) (cs : List Int) (w : World) (hn : es.length = n) (hr : ReadsE w b off es) (hl : cs.length = m) (hrc : ReadsI w cb co cs) (hz : chainCode s es cs E B = 0) :
    Calls Try.prog 32 #[.agg #[.int .i64 s, .slice (some ⟨b, off, none⟩) n c], .slice (some ⟨cb, co, none⟩) m f0, .int .i64 E, .int .i64 B] w fun e' w' => ∃ q cap, e' = .returned (.tuple #[.slice q n cap, .int .i64 0]) ∧ FreshI w.heap.size w' q n cap (exU es cs (eI cs E + B) E n) ∧ Below w.heap.size w w' := by
  obtain ⟨g, gc, gp, G0⟩ := chainCode_zero hz
  rw [Int.toNat_natCast] at G0
  have hn30 : n ≤ 30 := by have := isG_len g; omega
  have HNM := hid (show m = n by rw [← hl, ← hn]; exact gc.1)
  have Hn := hid hn
  have Hr := hid hr
  have Hl := hid hl
  have Hrc := hid hrc
  have G := hid G0
  have HZ := hid hz
  obtain ⟨A, hA⟩ : ∃ A, eI cs E = A := ⟨_, rfl⟩
  have HAE := hid hA
  have HAB := hid (show (0 ≤ A ∧ A < 3) ∧ (0 ≤ B ∧ B < 3) by have h1 := (G0.gc.2 E G0.he).1; have h2 := G0.hb; omega)
  have HC3 := hid (show ∀ f, f < n → 0 ≤ eI cs f ∧ eI cs f < 3 from fun f hf => (gc.2 f (by omega)).1)
  have hEn : E < n := by have := G0.he; omega
  have hEm : E < m := by have := HNM.out; omega
  have hEm' : (E : Int) < (m : Int) := by omega
  have hcb : cb < w.heap.size := hrc.lt (by omega)
  have hcE := hrc E (by omega)
  rw [hA] at hcE
  rw [hA]
  clear hn hr hl hrc G0 hz g gc gp hA
  go_enter Try.func32, Try.ntmps32
  go_wp2_with fail
  refine (iGiven_any s _ n c es _ m f0 cs E B _ (by omega) Hn.out (SeesE.on (.inr ⟨b, off, rfl, Hr.out⟩) (on_alloc _ _)) (by have := HNM.out; omega) Hl.out (SeesI.on (.inr ⟨cb, co, rfl, Hrc.out⟩) (on_alloc _ _))).mono ?_
  rw [HZ.out]
  rintro e' w2 ⟨rfl, hb2⟩
  have HB2 := hid (bfrom (w := w) (on_alloc _ _) hb2)
  have hX2 := (Box.new w s (some ⟨b, off, none⟩) n c 30).on hb2
  have hx2 := hX2.1
  have hy2 := hX2.2
  have hz2 := hX2.lt
  have hs2 := HB2.out.size
  have hcE2 := ((bcells hb2).1 _ _ (by simp; omega)).trans (((bcells (on_alloc w (.cells #[.int .i64 s, .slice (some ⟨b, off, none⟩) n c] 30))).1 _ _ hcb).trans hcE)
  have hcb2 : cb < w2.heap.size := by omega
  have HCH : ∀ wq, Below w2.heap.size w2 wq → Calls Try.prog 67 #[.agg #[.int .i64 s, .slice (some ⟨b, off, none⟩) n c], .slice (some ⟨cb, co, none⟩) m f0, .int .i64 E, .int .i64 B] wq fun e' w' => ∃ q l cap, e' = .returned (.slice q l cap) ∧ (chU es cs (A + B) E n).length = l ∧ SeesI w' q (chU es cs (A + B) E n) ∧ Below wq.heap.size wq w' ∧ Below w2.heap.size w2 w' := by
    intro wq hq
    refine (iChain_any s b off n c cb co m f0 E B es cs wq Hn.out ((Hr.out.on HB2.out).on hq) Hl.out ((Hrc.out.on HB2.out).on hq) HNM.out G.out).mono ?_
    rw [HAE.out]
    rintro e' w' ⟨q, cap, rfl, hf, hb⟩
    exact ⟨q, _, cap, rfl, rfl, hf.sees, hb, bfrom hq hb⟩
  have HEX : ∀ wq q l cap, Below w2.heap.size w2 wq → (chU es cs (A + B) E n).length = l → SeesI wq q (chU es cs (A + B) E n) → Calls Try.prog 70 #[.slice (some ⟨cb, co, none⟩) m f0, .slice q l cap, .int .i64 A, .int .i64 B] wq fun e' w' => ∃ q cap, e' = .returned (.slice q n cap) ∧ FreshI w2.heap.size w' q n cap (exU es cs (A + B) E n) ∧ Below w2.heap.size w2 w' := by
    intro wq q l cap hq hl hs
    rw [HNM.out]
    refine (iExch_any cb co n f0 l cap E q A B es cs wq Hn.out hn30 (by rw [Hl.out, HNM.out]) ((Hrc.out.on HB2.out).on hq) HC3.out HAB.out.1 HAB.out.2 hEn hl hs).mono ?_
    rintro e' w' ⟨q, cap, rfl, hf, hb⟩
    exact ⟨q, cap, rfl, FreshI.less hf hq.size, bfrom hq hb⟩
  clear hb2 hX2 hcE
  go_upto_region 4 with fail
  go_cut [8, 9] (fun u v wx => ∃ q cap, u = .slice q n cap ∧ v = .int .i64 0 ∧ Hid (FreshI w2.heap.size wx q n cap (exU es cs (A + B) E n) ∧ Below w2.heap.size w2 wx))
  case first =>
    go_region_held3 (fun w' => w'.cell? ⟨cb, co + E, none⟩ = some (.int .i64 A) ∧ w'.cell? ⟨w.heap.size, 0, none⟩ = some (.int .i64 s) ∧ w'.cell? ⟨w.heap.size, 1, none⟩ = some (.slice (some ⟨b, off, none⟩) n c))
      (first | go_keep | (exact ⟨hk1, hk2, hk3⟩) | (exact ⟨hm1, hm2, hm3⟩))
      (first
        | (go_at_call 67; refine (HCH _ (by have := Below.refl w2.heap.size w2; go_grown)).mono ?_; rintro e' w3 ⟨q3, l3, cap3, rfl, hl3, hs3, hb3, hB3⟩; have hk1 := ((bcells hB3).1 _ _ hcb2).trans hcE2; have hk2 := ((bcells hB3).1 _ _ hz2).trans hx2; have hk3 := ((bcells hB3).1 _ _ hz2).trans hy2)
        | (go_at_call 70; refine (HEX _ q3 l3 cap3 (bfrom hB3 (by have := Below.refl w3.heap.size w3; go_grown)) hl3 (hs3.on (by have := Below.refl w3.heap.size w3; go_grown))).mono ?_; rintro e' w4 ⟨q4, cap4, rfl, hf4, hB4⟩; have hm1 := ((bcells hB4).1 _ _ hcb2).trans hcE2; have hm2 := ((bcells hB4).1 _ _ hz2).trans hx2; have hm3 := ((bcells hB4).1 _ _ hz2).trans hy2))
    all_goals
      go_wp2_with fail
      go_meet
      exact ⟨q4, cap4, rfl, rfl, hid ⟨hf4, hB4⟩⟩
  case rest =>
  obtain ⟨q, cap, rfl, rfl, hcb4⟩ := hcut
  have HF := hid hcb4.out.1
  have HB4 := hid hcb4.out.2
  clear hcb4 HCH HEX
  go_wp2
  go_ret2
  exact ⟨q, cap, rfl, FreshI.less HF.out hs2, bfrom HB2.out HB4.out⟩

theorem sExchangeChain_any (s : Int) (p : Option Addr) (n c : Nat) (es : List (Int × Int)) (pc : Option Addr) (m d : Nat) (cs : List Int) (e b : Int) (w : World) (hm : n ≤ 1048576) (hn : es.length = n) (hr : SeesE w p es) (hm2 : m ≤ 1048576) (hl : cs.length = m) (hrc : SeesI w pc cs) :
    Calls Try.prog 31 #[.agg #[.int .i64 s, .slice p n c], .slice pc m d, .int .i64 e, .int .i64 b] w fun e' w' => ∃ q cap, e' = .returned (.tuple #[.slice q (fExchangeChain s es cs e b).1.length cap, .int .i64 (fExchangeChain s es cs e b).2]) ∧ FreshI w.heap.size w' q (fExchangeChain s es cs e b).1.length cap (fExchangeChain s es cs e b).1 ∧ Below w.heap.size w w' := by
  unfold fExchangeChain
  by_cases hz : chainCode s es cs e b = 0
  · rw [if_pos hz]
    obtain ⟨g, gc, gp, _⟩ := chainCode_zero hz
    obtain ⟨bb, off, rfl, rd⟩ := isG_sees g hr
    obtain ⟨cb, co, rfl, rc⟩ := cols_seesC g gc hrc
    obtain ⟨E, rfl⟩ : ∃ E : Nat, e = E := ⟨_, (Int.toNat_of_nonneg gp.1.1).symm⟩
    rw [Int.toNat_natCast, hn]
    dsimp only
    rw [exU_len]
    exact sExchangeChain_yes s bb off n c cb co m d E b es cs w hn rd hl rc hz
  · rw [if_neg hz]
    exact (sExchangeChain_no s p n c es pc m d cs e b w hm hn hr hm2 hl hrc hz).mono fun e' w' ⟨h1, h2⟩ => ⟨none, 0, h1, FreshI.nil _ _, h2⟩

theorem iExchangeChain_any (s : Int) (p : Option Addr) (n c : Nat) (es : List (Int × Int)) (pc : Option Addr) (m d : Nat) (cs : List Int) (e b : Int) (w : World) (hm : n ≤ 1048576) (hn : es.length = n) (hr : SeesE w p es) (hm2 : m ≤ 1048576) (hl : cs.length = m) (hrc : SeesI w pc cs) :
    Calls Try.prog 32 #[.agg #[.int .i64 s, .slice p n c], .slice pc m d, .int .i64 e, .int .i64 b] w fun e' w' => ∃ q cap, e' = .returned (.tuple #[.slice q (fExchangeChain s es cs e b).1.length cap, .int .i64 (fExchangeChain s es cs e b).2]) ∧ FreshI w.heap.size w' q (fExchangeChain s es cs e b).1.length cap (fExchangeChain s es cs e b).1 ∧ Below w.heap.size w w' := by
  unfold fExchangeChain
  by_cases hz : chainCode s es cs e b = 0
  · rw [if_pos hz]
    obtain ⟨g, gc, gp, _⟩ := chainCode_zero hz
    obtain ⟨bb, off, rfl, rd⟩ := isG_sees g hr
    obtain ⟨cb, co, rfl, rc⟩ := cols_seesC g gc hrc
    obtain ⟨E, rfl⟩ : ∃ E : Nat, e = E := ⟨_, (Int.toNat_of_nonneg gp.1.1).symm⟩
    rw [Int.toNat_natCast, hn]
    dsimp only
    rw [exU_len]
    exact iExchangeChain_yes s bb off n c cb co m d E b es cs w hn rd hl rc hz
  · rw [if_neg hz]
    exact (iExchangeChain_no s p n c es pc m d cs e b w hm hn hr hm2 hl hrc hz).mono fun e' w' ⟨h1, h2⟩ => ⟨none, 0, h1, FreshI.nil _ _, h2⟩

end Go.Proofs.Ytafiockejagapaa
