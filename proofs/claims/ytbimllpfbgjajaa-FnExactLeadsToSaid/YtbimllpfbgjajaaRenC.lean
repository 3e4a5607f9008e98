/- RenumberGraph in the model and in the program. -/
import Derived.Test.YtbimllpfbgjajaaRenB
import Derived.Test.YtbimllpfbgjajaaImplG
import Derived.StillTailTactics
import Derived.BigRegion
namespace Go.Proofs.Ytbimllpfbgjajaa
open Go.RowKit Go.Lib

/-- What RenumberGraph makes: the size, the edges and the code. -/
def fRenumberGraph (s : Int) (es : List (Int × Int)) (ps : List Int) : Int × List (Int × Int) × Int := if IsG s es then (if eachF s ps then (s, sortE (renE ps es), 0) else (0, [], 2)) else (0, [], 1)
theorem fRenumberGraph_len (s : Int) (es : List (Int × Int)) (ps : List Int) (h : es.length ≤ 1048576) (_ : ps.length ≤ 1048576) : (fRenumberGraph s es ps).2.1.length ≤ 1048576 := by
  unfold fRenumberGraph
  split
  · split
    · show (sortE (renE ps es)).length ≤ _
      rw [sortE_length, renE_length]; exact h
    · simp
  · simp





set_option maxRecDepth 100000 in
set_option maxHeartbeats 2000000 in
theorem iRG_none (s : Int) (p q : Option Addr) (n c m d : Nat) (es : List (Int × Int)) (w : World) (h1 : es.length = n) (m1 : n ≤ 1048576) (r1 : SeesE w p es) (g1 : ¬ IsG s es) :
    Calls Try.prog 65 #[.agg #[.int .i64 s, .slice p n c], .slice q m d] w fun e w' => e = .returned (.tuple #[.agg #[.int .i64 0, .slice none 0 0], .int .i64 1]) ∧ Below w.heap.size w w' := by
  have H1 := hid h1
  have R1 := hid r1
  have G1 := hid g1
  clear h1 r1 g1
  go_enter Try.func65, Try.ntmps65
  go_wp2_with fail
  refine (iIsGraph_any _ _ _ _ es _ m1 H1.out (R1.out.on (by go_grown))).mono ?_
  rw [decide_eq_false G1.out]
  rintro e w2 ⟨rfl, hb2⟩
  obtain ⟨hc2, hf2⟩ := bcells hb2
  have hz2 := hb2.size
  simp at hz2
  go_wp2
  refine bodyPost_ret (v := .tuple #[.agg #[.int .i64 0, .slice none 0 0], .int .i64 1]) (by simp [results, Try.results65, go_sem, hc2]) rfl ⟨rfl, ?_⟩
  have hbw := bfrom (w := w) (by go_grown) hb2
  go_grown

set_option maxRecDepth 100000 in
set_option maxHeartbeats 2000000 in
theorem iRG_order (s : Int) (p q : Option Addr) (n c m d : Nat) (es : List (Int × Int)) (ps : List Int) (w : World) (h1 : es.length = n) (m1 : n ≤ 1048576) (r1 : SeesE w p es) (g1 : IsG s es) (h2 : ps.length = m) (m2 : m ≤ 1048576) (r2 : SeesI w q ps) (g2 : ¬ eachF s ps) :
    Calls Try.prog 65 #[.agg #[.int .i64 s, .slice p n c], .slice q m d] w fun e w' => e = .returned (.tuple #[.agg #[.int .i64 0, .slice none 0 0], .int .i64 2]) ∧ Below w.heap.size w w' := by
  have H1 := hid h1
  have R1 := hid r1
  have hs1 : 1 ≤ s := by have := g1.1.1.1; omega
  have hs2 : s ≤ 20 := g1.1.1.2.1
  have G1 := hid g1
  have H2 := hid h2
  have R2 := hid r2
  have G2 := hid g2
  have M2 := hid m2
  clear h1 r1 g1 h2 r2 g2 m2
  go_enter Try.func65, Try.ntmps65
  go_wp2_with fail
  refine (iIsGraph_any _ _ _ _ es _ m1 H1.out (R1.out.on (by go_grown))).mono ?_
  rw [decide_eq_true G1.out]
  rintro e w2 ⟨rfl, hb2⟩
  obtain ⟨hc2, hf2⟩ := bcells hb2
  have hbw2 := bfrom (w := w) (by go_grown) hb2
  have hz2 := hb2.size
  simp at hz2
  go_wp2_with fail
  refine (iEach_any _ _ _ _ ps _ hs1 hs2 M2.out H2.out (R2.out.on hbw2)).mono ?_
  rw [decide_eq_false G2.out]
  rintro e w3 ⟨rfl, hb3⟩
  obtain ⟨hc3, hf3⟩ := bcells (bfrom hb2 hb3)
  have hz3 := (bfrom hb2 hb3).size
  simp at hz3
  clear hc2 hf2
  go_wp2
  refine bodyPost_ret (v := .tuple #[.agg #[.int .i64 0, .slice none 0 0], .int .i64 2]) (by simp [results, Try.results65, go_sem, hc3]) rfl ⟨rfl, ?_⟩
  have hbw := bfrom hbw2 hb3
  go_grown

set_option maxRecDepth 100000 in
set_option maxHeartbeats 4000000 in
theorem iRG_yes (s : Int) (b off n c pb po m d : Nat) (es : List (Int × Int)) (ps : List Int) (w : World) (h1 : es.length = n) (m1 : n ≤ 30) (r1 : ReadsE w b off es) (g1 : IsG s es) (h2 : ps.length = m) (m2 : m ≤ 1048576) (r2 : ReadsI w pb po ps) (g2 : eachF s ps) :
    Calls Try.prog 65 #[.agg #[.int .i64 s, .slice (some ⟨b, off, none⟩) n c], .slice (some ⟨pb, po, none⟩) m d] w fun e w' => ∃ q cap, e = .returned (.tuple #[.agg #[.int .i64 s, .slice q n cap], .int .i64 0]) ∧ FreshE w.heap.size w' q n cap (sortE (renE ps es)) ∧ Below w.heap.size w w' := by
  have H1 := hid h1
  have R1 := hid r1
  have hs1 : 1 ≤ s := by have := g1.1.1.1; omega
  have hs2 : s ≤ 20 := g1.1.1.2.1
  have hms : (m : Int) = s := by rw [← h2]; exact g2.1
  have Hms := hid hms
  have G1 := hid g1
  have H2 := hid h2
  have R2 := hid r2
  have G2 := hid g2
  have M2 := hid m2
  have hq0 : n ≤ 9223372036854775807 := by omega
  have hm9 : m ≤ 9223372036854775807 := by omega
  obtain ⟨i0, hi, hz0, hz1, hzz⟩ := info_parts infoEdge
  have Hi := hid hi
  clear h1 r1 g1 h2 r2 g2 m2 hms hi
  go_enter Try.func65, Try.ntmps65
  go_wp2_with fail
  refine (iIsGraph_any _ _ _ _ es _ (by omega) H1.out (.inr ⟨b, off, rfl, R1.out.on (by go_grown)⟩)).mono ?_
  rw [decide_eq_true G1.out]
  rintro e w2 ⟨rfl, hb2⟩
  obtain ⟨hc2, hf2⟩ := bcells hb2
  have hbw2 := bfrom (w := w) (by go_grown) hb2
  have hz2 := hb2.size
  simp at hz2
  go_wp2_with fail
  refine (iEach_any _ _ _ _ ps _ hs1 hs2 M2.out H2.out (.inr ⟨pb, po, rfl, R2.out.on hbw2⟩)).mono ?_
  rw [decide_eq_true G2.out]
  rintro e w3 ⟨rfl, hb3⟩
  obtain ⟨hc3, hf3⟩ := bcells (bfrom hb2 hb3)
  have hbw3 := bfrom hbw2 hb3
  have hz3 := (bfrom hb2 hb3).size
  simp at hz3
  have R13 := hid (R1.out.on hbw3)
  have R23 := hid (R2.out.on hbw3)
  clear hc2 hf2
  go_wp2_with (at_make; refine wpList_make_full _ rfl _ _ 28 rfl w3.heap.size 68 i0 (.agg #[.int .i64 0, .int .i64 0]) 2 Try.underlying28 Hi.out hz0 hz1 _ _ _ _ n rfl rfl rfl rfl (by rw [hzz]; omega) (by unfold maxLen; omega) (Nat.le_refl _) ?_; intro w4 hown hgrow; have hb4 : Below w3.heap.size w3 w4 := (Below.refl w3.heap.size w3).grown hgrow (Nat.le_refl _) (fun k e => by cases e); have hy4 : w4.cell? ⟨w.heap.size, 1, none⟩ = some (.slice (some ⟨b, off, none⟩) n c) := (by rw [(bcells hb4).1 _ _ (by omega), hc3 _ _ (by simp; omega)]; simp); have hl4 : w.heap.size < w4.heap.size := (by have := hb4.size; omega))
  have Ho := hid (OwnE.made hown)
  have hx4 : w4.cell? ⟨w.heap.size, 0, none⟩ = some (.int .i64 s) := by rw [(bcells hb4).1 _ _ (by omega), hc3 _ _ (by simp; omega)]; simp
  have hra4 : w4.cell? ⟨w.heap.size + 1, 0, none⟩ = some (.int .i64 0) := by rw [(bcells hb4).1 _ _ (by omega), hc3 _ _ (by simp)]; simp
  have hrb4 : w4.cell? ⟨w.heap.size + 1, 1, none⟩ = some (.slice none 0 0) := by rw [(bcells hb4).1 _ _ (by omega), hc3 _ _ (by simp)]; simp
  have hfa4 : w4.frozen? ⟨w.heap.size + 1, 0, none⟩ = false := by rw [(bcells hb4).2 _ _ (by omega), hf3 _ _ (by simp)]; exact new_free _ _ _ _ _ (by simp)
  have hfb4 : w4.frozen? ⟨w.heap.size + 1, 1, none⟩ = false := by rw [(bcells hb4).2 _ _ (by omega), hf3 _ _ (by simp)]; exact new_free _ _ _ _ _ (by simp)
  have Hb4 := hid hb4
  clear hown hgrow hc3 hf3 hb2 hb3 hb4
  go_wp2
  go_loopw [26] (fun i wr => ∃ k : Nat, k ≤ n ∧ i = .int .i64 k ∧ Hid (OwnE wr w3.heap.size n ((renE ps es).take k ++ List.replicate (n - k) (0, 0))) ∧ Hid (Below w3.heap.size w3 wr)) (fun i _ => n - (intOf i).toNat)
  case atStart => exact ⟨0, Nat.zero_le _, rfl, hid (by simpa using Ho.out), Hb4⟩
  case round =>
    obtain ⟨k, hk, rfl, hO, hB⟩ := hrel
    by_cases hlt : k < n
    · have hbb : b < w3.heap.size := reads_lt R13.out (by have := H1.out; omega)
      have hpb : pb < w3.heap.size := R23.out.lt (by have := H2.out; have := Hms.out; omega)
      have hc1 := (R13.out.on hB.out k (by have := H1.out; omega)).1
      have hc2 := (R13.out.on hB.out k (by have := H1.out; omega)).2
      have hok := G1.out.1.2 k (by have := H1.out; omega)
      obtain ⟨X, hX1⟩ : ∃ X : Nat, eA es k = X := ⟨_, (Int.toNat_of_nonneg hok.1).symm⟩
      obtain ⟨Y, hY1⟩ : ∃ Y : Nat, eB es k = Y := ⟨_, (Int.toNat_of_nonneg hok.2.2.1).symm⟩
      have hXm : X < m := by have := hok.2.1; have := Hms.out; omega
      have hYm : Y < m := by have := hok.2.2.2.1; have := Hms.out; omega
      rw [hX1] at hc1
      rw [hY1] at hc2
      have hp1 := R23.out.on hB.out X (by have := H2.out; omega)
      have hp2 := R23.out.on hB.out Y (by have := H2.out; omega)
      have hXm' : (X : Int) < (m : Int) := by omega
      have hYm' : (Y : Int) < (m : Int) := by omega
      have hwr : w3.heap.size < wr.heap.size := hO.out.lt
      have lb : b < wr.heap.size := by omega
      have lp : pb < wr.heap.size := by omega
      have f1 := hO.out.free (k * 2)
      have f2 := hO.out.free (k * 2 + 1)
      have g1 := (hO.out.reads k (by simp [renE_length]; have := H1.out; omega)).1
      have g2 := (hO.out.reads k (by simp [renE_length]; have := H1.out; omega)).2
      rw [Nat.zero_add] at g1 g2
      have HX1 := hid hX1
      have HY1 := hid hY1
      clear hok hX1 hY1
      have hnp : ¬ pb = w3.heap.size := by omega
      obtain ⟨wo, rfl⟩ : ∃ wo : World, wo = wr := ⟨_, rfl⟩
      go_wp2
      go_region
      go_wp2
      go_roundw
      case rel =>
        refine ⟨k + 1, by omega, by go_num, hid ?_, hid ?_⟩
        · rw [← fill_step (by rw [renE_length, H1.out]) hlt (eI ps X, eI ps Y) (renE_at (by have := H1.out; omega) HX1.out HY1.out)]
          exact OwnE.keep (w' := World.drew _) ((hO.out.set (by simp [renE_length]; have := H1.out; omega) _ _).alloc _) rfl
        · exact (((hB.out.setCell (p := ⟨w3.heap.size, _, none⟩) (Nat.le_refl _) _).setCell (p := ⟨w3.heap.size, _, none⟩) (Nat.le_refl _) _).alloc (by simpa [World.setCell] using hB.out.size) _).drew
      case measure => simp [intOf]; omega
    · obtain rfl : k = n := by omega
      have ho := hO.out
      rw [Nat.sub_self, List.replicate_zero, List.append_nil, List.take_of_length_le (by rw [renE_length]; have := H1.out; omega)] at ho
      have HO := hid ho
      have hwr : w3.heap.size < wr.heap.size := ho.lt
      have hx5 := (hB.out.cell (p := ⟨w.heap.size, 0, none⟩) (by show w.heap.size < _; omega))
      have hx6 : wr.cell? ⟨w.heap.size, 0, none⟩ = some (.int .i64 s) := hx5.trans (((Hb4.out.cell (p := ⟨w.heap.size, 0, none⟩) (by show w.heap.size < _; omega)).symm).trans hx4)
      have hra6 : wr.cell? ⟨w.heap.size + 1, 0, none⟩ = some (.int .i64 0) := (hB.out.cell (p := ⟨w.heap.size + 1, 0, none⟩) (by show w.heap.size + 1 < _; omega)).trans (((Hb4.out.cell (p := ⟨w.heap.size + 1, 0, none⟩) (by show w.heap.size + 1 < _; omega)).symm).trans hra4)
      have hrb6 : wr.cell? ⟨w.heap.size + 1, 1, none⟩ = some (.slice none 0 0) := (hB.out.cell (p := ⟨w.heap.size + 1, 1, none⟩) (by show w.heap.size + 1 < _; omega)).trans (((Hb4.out.cell (p := ⟨w.heap.size + 1, 1, none⟩) (by show w.heap.size + 1 < _; omega)).symm).trans hrb4)
      have hfa6 : wr.frozen? ⟨w.heap.size + 1, 0, none⟩ = false := (hB.out.frozen (p := ⟨w.heap.size + 1, 0, none⟩) (by show w.heap.size + 1 < _; omega)).trans (((Hb4.out.frozen (p := ⟨w.heap.size + 1, 0, none⟩) (by show w.heap.size + 1 < _; omega)).symm).trans hfa4)
      have hfb6 : wr.frozen? ⟨w.heap.size + 1, 1, none⟩ = false := (hB.out.frozen (p := ⟨w.heap.size + 1, 1, none⟩) (by show w.heap.size + 1 < _; omega)).trans (((Hb4.out.frozen (p := ⟨w.heap.size + 1, 1, none⟩) (by show w.heap.size + 1 < _; omega)).symm).trans hfb4)
      clear hx4 hy4 hra4 hrb4 hfa4 hfb4 ho hx5 Ho hO
      have hlx : w.heap.size < wr.heap.size := by omega
      have hlx1 : w.heap.size + 1 < wr.heap.size := by omega
      go_wp2
      go_region_held3 (fun w' => w'.cell? ⟨w.heap.size, 0, none⟩ = some (.int .i64 s)) (first | go_keep | (exact hx7))
        ((go_at_call 97; refine (inOrder_any _ _ _ _ (renE ps es) _ (by omega) (by rw [renE_length, H1.out]) (OwnE.keep (w' := wr.drew) HO.out rfl).reads).mono ?_; rintro e w7 ⟨rfl, ho7, hb7⟩; have HO7 := hid ho7; clear ho7; have hx7 := ((bcells hb7).1 _ _ hlx).trans hx6; have hra7 := ((bcells hb7).1 _ _ hlx1).trans hra6; have hrb7 := ((bcells hb7).1 _ _ hlx1).trans hrb6; have hfa7 := ((bcells hb7).2 _ _ hlx1).trans hfa6; have hfb7 := ((bcells hb7).2 _ _ hlx1).trans hfb6; have hz7 : w.heap.size + 1 < w7.heap.size := (by have := hb7.size; simp only [drew_size] at this; omega)))
      go_wp2
      refine bodyPost_ret (v := .tuple #[.agg #[.int .i64 s, .slice (some ⟨wr.heap.size, 0, none⟩) k k], .int .i64 0]) (by simp [results, Try.results65, go_sem, hra7, hrb7]) rfl ⟨_, _, rfl, ?_, ?_⟩
      · exact FreshE.less ((FreshE.of_own (OwnE.far (OwnE.far HO7.out (by show wr.heap.size ≠ w.heap.size + 1; omega) _) (by show wr.heap.size ≠ w.heap.size + 1; omega) _) (by rw [sortE_length, renE_length, H1.out]) (Nat.le_refl _))) (by show w.heap.size ≤ wr.heap.size; omega)
      · exact ((bfrom (bfrom hbw3 hB.out).drew hb7).setCell (p := ⟨w.heap.size + 1, 0, none⟩) (by show w.heap.size ≤ w.heap.size + 1; omega) _).setCell (p := ⟨w.heap.size + 1, 1, none⟩) (by show w.heap.size ≤ w.heap.size + 1; omega) _

theorem iRenumberGraph_any (s : Int) (p : Option Addr) (n c : Nat) (es : List (Int × Int)) (q : Option Addr) (m d : Nat) (ps : List Int) (w : World) (hm : n ≤ 1048576) (hl : es.length = n) (hr : SeesE w p es) (hm2 : m ≤ 1048576) (hl2 : ps.length = m) (hr2 : SeesI w q ps) :
    Calls Try.prog 65 #[.agg #[.int .i64 s, .slice p n c], .slice q m d] w fun e w' => ∃ q' cap, e = .returned (.tuple #[.agg #[.int .i64 (fRenumberGraph s es ps).1, .slice q' (fRenumberGraph s es ps).2.1.length cap], .int .i64 (fRenumberGraph s es ps).2.2]) ∧ FreshE w.heap.size w' q' (fRenumberGraph s es ps).2.1.length cap (fRenumberGraph s es ps).2.1 ∧ Below w.heap.size w w' := by
  unfold fRenumberGraph
  by_cases g1 : IsG s es
  · rw [if_pos g1]
    have l1 := isG_len g1
    by_cases g2 : eachF s ps
    · rw [if_pos g2]
      obtain ⟨b, off, rfl, rd⟩ := isG_sees g1 hr
      obtain ⟨pb, po, rfl, rp⟩ := each_sees (by have := g1.1.1.1; omega) g2 hr2
      have hll : (sortE (renE ps es)).length = n := by rw [sortE_length, renE_length, hl]
      dsimp only
      rw [hll]
      exact iRG_yes s b off n c pb po m d es ps w hl (by omega) rd g1 hl2 hm2 rp g2
    · rw [if_neg g2]
      exact (iRG_order s p q n c m d es ps w hl hm hr g1 hl2 hm2 hr2 g2).mono fun e w' ⟨he, hb⟩ => ⟨none, 0, he, FreshE.nil _ _, hb⟩
  · rw [if_neg g1]
    exact (iRG_none s p q n c m d es w hl hm hr g1).mono fun e w' ⟨he, hb⟩ => ⟨none, 0, he, FreshE.nil _ _, hb⟩

end Go.Proofs.Ytbimllpfbgjajaa
