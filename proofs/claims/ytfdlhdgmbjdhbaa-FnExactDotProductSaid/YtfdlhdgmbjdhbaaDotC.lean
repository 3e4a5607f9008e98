/- DotProduct in the model: the product. -/
import Derived.Test.YtfdlhdgmbjdhbaaDotF
import Derived.Test.YtfdlhdgmbjdhbaaNearS
import Derived.Test.YtfdlhdgmbjdhbaaSpecF
import Derived.Test.YtfdlhdgmbjdhbaaClone
import Derived.Deep.RegionWith
import Derived.Deep.DeepCutAuto
namespace Go.Proofs.Ytfdlhdgmbjdhbaa
open Go.RowKit Go.Lib

theorem verts_two (s : Int) (es : List (Int × Int)) (v u : Int) : vertsCode s es [v, u] = if IsG s es then (if (0 ≤ v ∧ v < s) ∧ (0 ≤ u ∧ u < s) then 0 else 2) else 1 := by
  unfold vertsCode
  by_cases h : IsG s es
  · rw [if_pos h, if_pos h]
    by_cases h2 : (0 ≤ v ∧ v < s) ∧ (0 ≤ u ∧ u < s)
    · rw [if_pos h2, if_pos (fun i hi => by
        rcases (by simp at hi; omega : i = 0 ∨ i = 1) with rfl | rfl
        · exact h2.1
        · exact h2.2)]
    · rw [if_neg h2, if_neg (fun k => h2 ⟨k 0 (by simp), k 1 (by simp)⟩)]
  · rw [if_neg h, if_neg h]
theorem lie_ge {S g l cap g8 z : Nat} (hg : S ≤ g) (hz : S ≤ z) (h : (Value.slice (some ⟨g, 0, none⟩) l cap).ownBlock = some g8 ∨ g8 = z + 1) : S ≤ g8 := by
  rcases h with h | h
  · have e : g = g8 := Option.some.inj h
    omega
  · omega
/-- What stands while the joining edges are put on. -/
structure DotW (w : World) (s : Int) (p : Option Addr) (n c : Nat) (t : Int) (q : Option Addr) (m d gN capN : Nat) (L : List Int) (ga ca : Nat) (A : List Int) (gb cb : Nat) (B : List Int) (wo : World) : Prop where
  g1 : GBox wo w.heap.size s p n c
  g2 : GBox wo (w.heap.size + 1) t q m d
  g3 : GBox wo (w.heap.size + 1 + 1) 0 none 0 0
  num : OwnI wo gN capN L
  oa : OwnI wo ga ca A
  ob : OwnI wo gb cb B
  bel : Below w.heap.size w wo
theorem DotW.keep {w : World} {s : Int} {p : Option Addr} {n c : Nat} {t : Int} {q : Option Addr} {m d gN capN : Nat} {L : List Int} {ga ca : Nat} {A : List Int} {gb cb : Nat} {B : List Int} {wo w7 : World} {g l cap : Nat} {o : Obj} (h : DotW w s p n c t q m d gN capN L ga ca A gb cb B wo) (hne : gN ≠ g ∧ ga ≠ g ∧ gb ≠ g ∧ w.heap.size + 1 + 1 < g) (hgr : (wo.alloc o).drew.grownBy w7 (Value.slice (some ⟨g, 0, none⟩) l cap).ownBlock) : DotW w s p n c t q m d gN capN L ga ca A gb cb B w7 := by
  have keep : ∀ y, y < wo.heap.size → y ≠ g → w7.heap[y]? = wo.heap[y]? := fun y hy hne => (hgr.block y (by simp only [World.size_alloc, drew_size]; omega) (fun e => hne (Option.some.inj e))).trans (Below.heap_alloc wo _ y hy)
  have l1 := h.g1.lt
  have l2 := h.g2.lt
  have l3 := h.g3.lt
  refine ⟨h.g1.keep (keep _ l1 (by omega)), h.g2.keep (keep _ l2 (by omega)), h.g3.keep (keep _ l3 (by omega)), h.num.keep (keep _ h.num.lt hne.1), h.oa.keep (keep _ h.oa.lt hne.2.1), h.ob.keep (keep _ h.ob.lt hne.2.2.1), ?_⟩
  exact ((h.bel.alloc h.bel.size _).drew).grown hgr (by simp only [World.size_alloc, drew_size]; have := h.bel.size; omega) (fun j hj => by have e : g = j := Option.some.inj hj; omega)

theorem dotE_next {w : World} {s : Int} {p : Option Addr} {n c : Nat} {t : Int} {q : Option Addr} {m d gN capN : Nat} {L : List Int} {ga ca : Nat} {A : List Int} {gb cb : Nat} {B : List Int} {wo : World} {S g l cap g7 : Nat} {o : Obj} (h : gN ≠ g ∧ ga ≠ g ∧ gb ≠ g ∧ S ≤ g) (hw : DotW w s p n c t q m d gN capN L ga ca A gb cb B wo) (hS : S ≤ wo.heap.size) (hl : (Value.slice (some ⟨g, 0, none⟩) l cap).ownBlock = some g7 ∨ g7 = (wo.alloc o).drew.heap.size) : gN ≠ g7 ∧ ga ≠ g7 ∧ gb ≠ g7 ∧ S ≤ g7 := by
  rcases hl with e | e
  · have e' : g = g7 := Option.some.inj e
    subst e'
    exact h
  · simp only [World.size_alloc, drew_size] at e
    have a1 := hw.num.lt
    have a2 := hw.oa.lt
    have a3 := hw.ob.lt
    exact ⟨by omega, by omega, by omega, by omega⟩
theorem sEndsD_any {s v x : Int} {b off n c : Nat} {es : List (Int × Int)} {w : World} {L : List Int} (hL : exU es v x 3 = L) (h2 : L.length = 2) (hn : es.length = n) (hr : ReadsE w b off es) (g : IsG s es) (hv : 0 ≤ v ∧ v < s) :
    Calls Try.prog 31 #[.agg #[.int .i64 s, .slice (some ⟨b, off, none⟩) n c], .int .i64 v, .int .i64 x] w fun e w' => ∃ q cap, e = .returned (.slice q 2 cap) ∧ FreshI w.heap.size w' q 2 cap L ∧ Below w.heap.size w w' := by
  have h := sEndsX_any s v x b off n c es w hn hr g hv
  rw [hL, h2] at h
  exact h
/-- The cells that the joining edges are made from. -/
def DotS (w : World) (p : Option Addr) (n c b o gN ga : Nat) (e1 e2 n0 n1 : Int) (X0 X1 : Nat) (w' : World) : Prop :=
  w'.cell? ⟨w.heap.size, 1, none⟩ = some (.slice p n c) ∧ w'.cell? ⟨b, o, none⟩ = some (.int .i64 e1) ∧ w'.cell? ⟨b, o + 1, none⟩ = some (.int .i64 e2) ∧ w'.cell? ⟨ga, 0, none⟩ = some (.int .i64 (X0 : Int)) ∧ w'.cell? ⟨ga, 1, none⟩ = some (.int .i64 (X1 : Int)) ∧ w'.cell? ⟨gN, X0, none⟩ = some (.int .i64 n0) ∧ w'.cell? ⟨gN, X1, none⟩ = some (.int .i64 n1)
theorem dotS_of {w : World} {p : Option Addr} {n c b off gN capN ga ca E M X0 X1 : Nat} {s a b' : Int} {es : List (Int × Int)} {A : List Int} {wo : World} (hg : wo.cell? ⟨w.heap.size, 1, none⟩ = some (.slice p n c)) (hr : ReadsE wo b off es) (hE : E < es.length) (hN : OwnI wo gN capN (nmL s [a, b'] M)) (hA : OwnI wo ga ca A) (h2 : A.length = 2) (h0 : eI A 0 = (X0 : Int)) (h1 : eI A 1 = (X1 : Int)) (m0 : X0 < M) (m1 : X1 < M) (o0 : ¬ (X0 : Int) ∈ [a, b']) (o1 : ¬ (X1 : Int) ∈ [a, b']) :
    DotS w p n c b (off + E * 2) gN ga (eA es E) (eB es E) (s + numW X0 [a, b'] 2) (s + numW X1 [a, b'] 2) X0 X1 wo := by
  obtain ⟨r1, r2⟩ := hr E hE
  have a0 := hA.reads 0 (by omega)
  have a1 := hA.reads 1 (by omega)
  have k0 := hN.reads X0 (by rw [nmL_len]; exact m0)
  have k1 := hN.reads X1 (by rw [nmL_len]; exact m1)
  rw [h0] at a0
  rw [h1] at a1
  rw [nmL_at m0, nwF_no o0] at k0
  rw [nmL_at m1, nwF_no o1] at k1
  rw [Nat.zero_add] at a0 a1 k0 k1
  exact ⟨hg, r1, r2, a0, a1, k0, k1⟩

set_option maxRecDepth 100000 in
set_option maxHeartbeats 16000000 in
theorem sDot_yes (b off n c b2 o2 m d E F j : Nat) (s t a b' x y : Int) (es fs : List (Int × Int)) (A B : List Int) (w : World) (hn : es.length = n) (hr : ReadsE w b off es) (hn2 : fs.length = m) (hr2 : ReadsE w b2 o2 fs) (g1 : IsG s es) (g2 : IsG t fs) (hE : E < n) (hF : F < n) (hEF : E ≠ F) (hnr : nearB es E F = false)
    (ha : 0 ≤ a ∧ a < t) (hb : 0 ≤ b' ∧ b' < t) (hst : s + t ≤ 22) (hx : min a b' = x) (hy : max a b' = y) (hD : DotF t fs a b' x y A B j) :
    Calls Try.prog 7 #[.agg #[.int .i64 s, .slice (some ⟨b, off, none⟩) n c], .int .i64 E, .int .i64 F, .agg #[.int .i64 t, .slice (some ⟨b2, o2, none⟩) m d], .int .i64 a, .int .i64 b'] w fun e' w' => ∃ q cap, e' = .returned (.tuple #[.agg #[.int .i64 (s + t - 2), .slice q (dotM s es E F fs a b' A B).length cap], .int .i64 0]) ∧ FreshE w.heap.size w' q (dotM s es E F fs a b' A B).length cap (sortE (dotM s es E F fs a b' A B)) ∧ Below w.heap.size w w' := by
  have hn30 : n ≤ 30 := by have := isG_len g1; omega
  have hm30 : m ≤ 30 := by have := isG_len g2; omega
  have k1 := g1.1.1
  have k2 := g2.1.1
  unfold okSize at k1 k2
  obtain ⟨M, ht0⟩ : ∃ M : Nat, (M : Int) = t := ⟨t.toNat, Int.toNat_of_nonneg (by omega)⟩
  have HT0 := hid ht0
  have hE2 : EndsIn M fs := endsIn_of (by rw [ht0]; exact g2)
  have HNd := hid (show [a, b'].Nodup by have := hD.ne; simp; exact this)
  have HP0 := hid (show ∀ z, z ∈ [a, b'] → 0 ≤ z from fun z h => by
    rcases List.mem_cons.1 h with h | h
    · omega
    · have := List.mem_singleton.1 h
      omega)
  obtain ⟨T, hT⟩ : ∃ T, dotM s es E F fs a b' A B = T := ⟨_, rfl⟩
  rw [hT]
  obtain ⟨L2, hL2⟩ : ∃ L2, (mdU s fs [a, b'] m).length = L2 := ⟨_, rfl⟩
  have hL21 : 1 ≤ L2 := by rw [← hL2, ← hn2]; exact hD.left s
  have hL22 : L2 ≤ 30 := by
    rw [← hL2]
    unfold mdU
    rw [List.length_map]
    exact Nat.le_trans (List.length_filter_le _ _) (by simp; omega)
  have HL2 := hid hL2
  have HT := hid (show restU es [(E : Int), (F : Int)] n ++ mdU s fs [a, b'] m ++ [(eA es E, s + numW (eI A 0) [a, b'] 2), (eB es E, s + numW (eI A 1) [a, b'] 2)] ++ [(eA es F, s + numW (eI B 0) [a, b'] 2), (eB es F, s + numW (eI B 1) [a, b'] 2)] = T by rw [← hT, ← hn, ← hn2]; rfl)
  have Hn := hid hn
  have Hn2 := hid hn2
  have Hr1 := hid hr
  have Hr2' := hid hr2
  have Hr : Hid (SeesE w (some ⟨b, off, none⟩) es) := hid (.inr ⟨b, off, rfl, hr⟩)
  have Hr2 : Hid (SeesE w (some ⟨b2, o2, none⟩) fs) := hid (.inr ⟨b2, o2, rfl, hr2⟩)
  have G1 := hid g1
  have G2 := hid g2
  have EI2 := hid hE2
  have Ha := hid ha
  have Hb := hid hb
  have Hx := hid hx
  have Hy := hid hy
  have HD := hid hD
  have HNr := hid hnr
  have Q1 := hid (show edgsCode s es [(E : Int), (F : Int)] = 0 by rw [edgs_twoF, if_pos g1, if_pos ⟨by omega, by omega, by omega, by omega⟩])
  have Q2 := hid (show vertsCode t fs [a, b'] = 0 by rw [verts_two, if_pos g2, if_pos ⟨ha, hb⟩])
  have HJc := hid (show ((jcU fs x y m : Nat) : Int) = 1 by rw [← hn2, hD.cnt]; rfl)
  have HJf := hid (show jfU fs x y m = (j : Int) by rw [← hn2]; exact hD.fst)
  have t1 : ((E : Int) == (F : Int)) = false := by simp; omega
  have t1n : (E == F) = false := by simpa using hEF
  have h3 : decide (20 < s + t - 2) = false := decide_eq_false (by omega)
  have e1 : IntKind.i64.wrap (s + t) = s + t := IntWalk.i64_in _ (by omega)
  have e2 : IntKind.i64.wrap (s + t - 2) = s + t - 2 := IntWalk.i64_in _ (by omega)
  obtain ⟨i0, hi, hz0, hz1, hz2⟩ := info_parts infoEdge
  have Hi := hid hi
  have HAr := hid (show 2 ≤ s ∧ 2 ≤ t ∧ s + t ≤ 22 ∧ n ≤ 30 ∧ m ≤ 30 ∧ 6 ≤ m ∧ 3 ≤ n ∧ 1 ≤ L2 ∧ L2 ≤ 30 ∧ M ≤ 20 ∧ 1 ≤ M from ⟨by omega, by omega, hst, hn30, hm30, by rw [← hn2]; exact hD.size, by omega, hL21, hL22, by omega, by omega⟩)
  have hEn : (E : Int) < (n : Int) := by omega
  have hFn : (F : Int) < (n : Int) := by omega
  clear hn hr hn2 hr2 g1 g2 ha hb hx hy hi hE2 hnr hst hn30 hm30 k1 k2 ht0 hD hT hL2 hL21 hL22
  go_enter Try.func7, Try.ntmps7
  go_wp2_with fail
  refine (sIs_any _ _ _ _ es _ (by have ar := HAr.out; omega) Hn.out (Hr.out.on (bfrom (bfrom (on_alloc _ _) (on_alloc _ _)) (on_alloc _ _)))).mono ?_
  rw [decide_eq_true G1.out]
  rintro e' w2 ⟨rfl, hb2⟩
  have HB2 := hid (bfrom (w := w) (bfrom (bfrom (on_alloc _ _) (on_alloc _ _)) (on_alloc _ _)) hb2)
  have H2 := hb2
  obtain ⟨hc2, hf2⟩ := bcells H2
  have hz2 := H2.size
  simp at hz2
  go_wp2_with fail
  refine (sIs_any _ _ _ _ fs _ (by have ar := HAr.out; omega) Hn2.out (Hr2.out.on HB2.out)).mono ?_
  rw [decide_eq_true G2.out]
  rintro e' w3 ⟨rfl, hb3⟩
  have HB3 := hid (bfrom (w := w) HB2.out hb3)
  have H3 := bfrom H2 hb3
  obtain ⟨hc3, hf3⟩ := bcells H3
  have hz3 := H3.size
  simp at hz3
  clear hc2 hf2 hz2 hb3
  go_wp2_with fail
  refine (sEdg_any s _ _ _ w3.heap.size 0 2 2 es [(E : Int), (F : Int)] _ (by have ar := HAr.out; omega) Hn.out (Hr.out.on (bfrom HB3.out (on_alloc _ _))) rfl (by omega) (reads_twoF _ _ _ _ _ rfl)).mono ?_
  rw [Q1.out]
  rintro e' w4 ⟨rfl, hb4⟩
  have HB4 := hid (bfrom (w := w) (bfrom HB3.out (on_alloc _ _)) hb4)
  have H4 := bfrom (bfrom H3 (on_alloc _ _)) hb4
  obtain ⟨hc4, hf4⟩ := bcells H4
  have hz4 := H4.size
  simp at hz4
  clear hc3 hf3 hz3 hb4
  go_wp2_with fail
  refine (sVert6_any t _ _ _ w4.heap.size 0 2 2 fs [a, b'] _ (by have ar := HAr.out; omega) Hn2.out (Hr2.out.on (bfrom HB4.out (on_alloc _ _))) rfl (by omega) (reads_twoF _ _ _ _ _ rfl)).mono ?_
  rw [Q2.out]
  rintro e' w5 ⟨rfl, hb5⟩
  have HB5 := hid (bfrom (w := w) (bfrom HB4.out (on_alloc _ _)) hb5)
  have H5 := bfrom (bfrom H4 (on_alloc _ _)) hb5
  obtain ⟨hc5, hf5⟩ := bcells H5
  have hz5 := H5.size
  simp at hz5
  clear hc4 hf4 hz4 hb5
  have HG5 : Hid (GBox w5 w.heap.size s (some ⟨b, off, none⟩) n c) := hid ((((GBox.new w w.heap.size rfl).on (on_alloc _ _)).on (on_alloc _ _)).on H5)
  have HH5 : Hid (GBox w5 (w.heap.size + 1) t (some ⟨b2, o2, none⟩) m d) := hid (((GBox.new _ _ (by simp)).on (on_alloc _ _)).on H5)
  have HK5 : Hid (GBox w5 (w.heap.size + 1 + 1) 0 none 0 0) := hid ((GBox.new _ _ (by simp)).on H5)
  clear hc5 hf5 hz5 H2 H3 H4 H5 HB2 HB3 HB4
  have hx5 := HG5.out.box.1
  have hy5 := HG5.out.box.2
  have hl5 := HG5.out.lt
  have hu5 := HH5.out.box.1
  have ht5 := HH5.out.box.2
  have hm5 := HH5.out.lt
  go_wp2_with fail
  refine (sJoined_any t a b' x y b2 o2 m d fs _ Hn2.out (by have ar := HAr.out; omega) (Hr2'.out.on HB5.out) (reads_lt (Hr2'.out.on HB5.out) (by have := Hn2.out; have ar := HAr.out; omega)) Hx.out Hy.out).mono ?_
  rw [HJc.out, HJf.out]
  rintro e' w6 ⟨rfl, hb6⟩
  have HB6 := hid (bfrom HB5.out hb6)
  have HG6 := hid (HG5.out.on hb6)
  have HH6 := hid (HH5.out.on hb6)
  have HK6 := hid (HK5.out.on hb6)
  clear hb6 hx5 hy5 hl5 hu5 ht5 hm5 HG5 HH5 HK5 HB5
  have hx6 := HG6.out.box.1
  have hy6 := HG6.out.box.2
  have hl6 := HG6.out.lt
  have hu6 := HH6.out.box.1
  have ht6 := HH6.out.box.2
  have hm6 := HH6.out.lt
  go_wp2_with fail
  refine (sNear_any s b off n c E F es _ Hn.out (by have ar := HAr.out; omega) (Hr1.out.on HB6.out) hE hF).mono ?_
  rw [HNr.out]
  rintro e' w7 ⟨rfl, hb7⟩
  have HB7 := hid (bfrom HB6.out hb7)
  have HG7 := hid (HG6.out.on hb7)
  have HH7 := hid (HH6.out.on hb7)
  have HK7 := hid (HK6.out.on hb7)
  clear hb7 hx6 hy6 hl6 hu6 ht6 hm6 HG6 HH6 HK6 HB6
  have hx7 := HG7.out.box.1
  have hy7 := HG7.out.box.2
  have hl7 := HG7.out.lt
  have hu7 := HH7.out.box.1
  have ht7 := HH7.out.box.2
  have hm7 := HH7.out.lt
  go_wp2_with fail
  have W8 := sWithout_any M b2 o2 m d w7.heap.size 0 2 2 s fs [a, b'] (w7.alloc (.cells #[.int .i64 a, .int .i64 b'] 2)) Hn2.out (by have ar := HAr.out; omega) (by have ar := HAr.out; omega) (by have ar := HAr.out; omega) (Hr2'.out.on (bfrom HB7.out (on_alloc _ _))) EI2.out (by have ar := HAr.out; omega) rfl (by omega) (reads_twoF _ _ _ _ _ rfl) HNd.out HP0.out (by simp)
  rw [HT0.out, HL2.out] at W8
  refine W8.mono ?_
  clear W8
  rintro e' w8 ⟨gN, capN, q2, cap2, rfl, hf8, ⟨hgN, hoN, _⟩, hb8⟩
  have HG8 := hid ((HG7.out.on (on_alloc _ _)).on hb8)
  have HH8 := hid ((HH7.out.on (on_alloc _ _)).on hb8)
  have HK8 := hid ((HK7.out.on (on_alloc _ _)).on hb8)
  have HB8 := hid (bfrom (bfrom HB7.out (on_alloc _ _)) hb8)
  have HN8 := hid hoN
  have hs8 : w.heap.size + 1 + 1 < w8.heap.size := HK8.out.lt
  obtain ⟨b7, o7, rfl, hr7⟩ : ∃ b7 o7, q2 = some ⟨b7, o7, none⟩ ∧ ReadsE w8 b7 o7 (mdU s fs [a, b'] m) := by
    rcases hf8.sees with h | ⟨b7, o7, h, h'⟩
    · exact absurd (congrArg List.length h) (by rw [HL2.out]; have ar := HAr.out; simp; omega)
    · exact ⟨b7, o7, h, h'⟩
  have HR8 := hid hr7
  have HgN := hid hoN.lt
  clear hb8 hoN hf8 hr7 hgN hx7 hy7 hl7 hu7 ht7 hm7 HG7 HH7 HK7 HB7
  go_upto_region 12 with fail
  obtain ⟨w9, hw9⟩ : ∃ w9, w9 = w8.alloc (.cells #[] 57) := ⟨_, rfl⟩
  have HB89 := hid (show Below w8.heap.size w8 w9 by rw [hw9]; exact on_alloc _ _)
  have HO9 := hid (show w9.ownsRow w8.heap.size 57 2 (.slice (some ⟨w8.heap.size, 0, none⟩) 0 0) 0 [] by rw [hw9]; exact World.ownsRow_made w8 #[] 0 (Nat.le_refl _) (Nat.zero_le _) rfl)
  rw [← hw9]
  clear hw9
  go_wp2_with fail
  go_loopw [18, 19] (fun u i wi => ∃ (k l cap g : Nat), k ≤ n ∧ l ≤ k ∧ u = .slice (some ⟨g, 0, none⟩) l cap ∧ i = .int .i64 k ∧ Hid (wi.ownsRow w8.heap.size 57 2 (.slice (some ⟨g, 0, none⟩) l cap) l (edgeVals (restU es [(E : Int), (F : Int)] k)) ∧ (restU es [(E : Int), (F : Int)] k).length = l ∧ w8.heap.size ≤ g) ∧ Hid (Below w8.heap.size w8 wi)) (fun _ i _ => n - (intOf i).toNat)
  case atStart => exact ⟨0, 0, 0, w8.heap.size, Nat.zero_le _, Nat.le_refl _, rfl, rfl, hid ⟨HO9.out, rfl, Nat.le_refl _⟩, HB89⟩
  case round =>
    obtain ⟨k, l, cap, g, hk, hlk, rfl, rfl, hO', hB⟩ := hrel
    have hgx := HG8.out.on hB.out
    have hx := hgx.box.1
    have hy := hgx.box.2
    have hlx := hgx.lt
    have hszr := hB.out.size
    have hn30 : n ≤ 30 := by have ar := HAr.out; omega
    by_cases hlt : k < n
    · have hlt' : (k : Int) < (n : Int) := by omega
      have hrd := Hr1.out.on (bfrom HB8.out hB.out) k (by have := Hn.out; omega)
      have hc1 := hrd.1
      have hc2 := hrd.2
      have hbr : b < wr.heap.size := reads_lt (Hr1.out.on (bfrom HB8.out hB.out)) (by have := Hn.out; omega)
      have hO := hid hO'.out.1
      have hl := hid hO'.out.2.1
      have hg0 := hO'.out.2.2
      have hl30 : l ≤ 30 := by have ar := HAr.out; omega
      have HBo := hid hB.out
      clear hO' hrd hgx hB
      obtain ⟨wo, rfl⟩ : ∃ wo : World, wo = wr := ⟨_, rfl⟩
      by_cases hkE : k = E
      · have b1 : ((k : Int) != (E : Int)) = false := by simp; omega
        have HS := hid (show restU es [(E : Int), (F : Int)] (k + 1) = restU es [(E : Int), (F : Int)] k from restU_no (by unfold outB; rw [hkE]; simp))
        clear hkE
        go_wp2_with fail
        go_roundw
        case rel => exact ⟨k + 1, l, cap, g, by omega, by omega, rfl, by go_num, hid ⟨by rw [HS.out]; exact hO.out, by rw [HS.out]; exact hl.out, hg0⟩, HBo⟩
        case measure => simp [intOf]; omega
      · have b1 : ((k : Int) != (E : Int)) = true := by simp; omega
        by_cases hkF : k = F
        · have b3 : ((k : Int) != (F : Int)) = false := by simp; omega
          have HS := hid (show restU es [(E : Int), (F : Int)] (k + 1) = restU es [(E : Int), (F : Int)] k from restU_no (by unfold outB; rw [hkF]; simp))
          clear hkE hkF
          go_wp2_with fail
          go_roundw
          case rel => exact ⟨k + 1, l, cap, g, by omega, by omega, rfl, by go_num, hid ⟨by rw [HS.out]; exact hO.out, by rw [HS.out]; exact hl.out, hg0⟩, HBo⟩
          case measure => simp [intOf]; omega
        · have b3 : ((k : Int) != (F : Int)) = true := by simp; omega
          have HS := hid (show restU es [(E : Int), (F : Int)] (k + 1) = restU es [(E : Int), (F : Int)] k ++ [(eA es k, eB es k)] from restU_yes (by unfold outB; simp; omega))
          clear hkE hkF
          go_wp2_with (at_builtin; go_loud (refine wpList_append_lies _ rfl (.tmp 101) (.tmp 107) 26 rfl w8.heap.size 57 i0 (.agg #[.int .i64 0, .int .i64 0]) 2 16 Try.underlying26 Hi.out hz0 hz1 hz2 rfl (by decide) (.slice (some ⟨g, 0, none⟩) l cap) l _ rfl (hO.out.alloc _) ⟨wo.heap.size, 0, none⟩ 1 1 [.int .i64 (eA es k), .int .i64 (eB es k)] rfl rfl (World.news_of_block (cs := #[.int .i64 (eA es k), .int .i64 (eB es k)]) (t := 57) (fr := (0, 0)) (heap_alloc_new _ _)) (by simp [Value.oneCell']) (by decide) (by unfold maxLen; omega) (by omega) (by simp; omega) (wo.heap.size + 1) (by simp) ?_); intro g8 cap8 w8' hown8 hgrow8 hlie8 hg8; have Hown8 := hid hown8; have hg88 : w8.heap.size ≤ g8 := (lie_ge hg0 hszr hlie8); have HB8' := hid ((HBo.out.alloc hszr (.cells #[.int .i64 (eA es k), .int .i64 (eB es k)] 57)).grown hgrow8 (by simp; omega) (fun j hj => by have h' : g = j := Option.some.inj hj; omega)); clear hown8 hgrow8 hlie8)
          go_roundw
          case rel => exact ⟨k + 1, l + 1, cap8, g8, by omega, by omega, rfl, by go_num, hid ⟨by rw [HS.out, edgeVals_append]; exact Hown8.out, by rw [HS.out, List.length_append, hl.out]; rfl, hg88⟩, HB8'⟩
          case measure => simp [intOf]; omega
    · obtain rfl : n = k := by omega
      have hl30 : l ≤ 30 := by have ar := HAr.out; omega
      have hO := hid hO'.out.1
      have hl := hid hO'.out.2.1
      have hg0 := hO'.out.2.2
      have HBr := hid hB.out
      have HRr := hid (HR8.out.on hB.out)
      have hL230 : 1 ≤ L2 ∧ L2 ≤ 30 := by have ar := HAr.out; omega
      have hb7 : b7 < w8.heap.size := reads_lt HR8.out (by have := HL2.out; omega)
      clear hO' hB hgx
      go_wp2_with (at_builtin; refine wpList_append_lies _ rfl (.tmp 109) (.tmp 110) 26 rfl w8.heap.size 57 i0 (.agg #[.int .i64 0, .int .i64 0]) 2 16 Try.underlying26 Hi.out hz0 hz1 hz2 rfl (by decide) (.slice (some ⟨g, 0, none⟩) l cap) l _ rfl hO.out ⟨b7, o7, none⟩ L2 cap2 (edgeVals (mdU s fs [a, b'] m)) rfl ?qc1 ?qc2 ?qc3 ?qm ?qc4 ?qc5 ?qc6 wr.heap.size rfl ?_)
      case qc1 => rw [edgeVals_length, HL2.out]
      case qc2 =>
        intro j u hj
        rw [Addr.add_lit]
        exact reads_vals HRr.out j u hj
      case qc3 => exact vals_one _
      case qm => omega
      case qc4 => unfold maxLen; omega
      case qc5 => omega
      case qc6 => omega
      intro g8 cap8 w10 ho8 hgr8 hlie8 hgl8
      have hg8 : w8.heap.size ≤ g8 := by
        rcases hlie8 with h | h
        · have e : g = g8 := Option.some.inj h
          omega
        · omega
      have HB10 := hid (HBr.out.grown hgr8 hszr (fun j hj => by have e : g = j := Option.some.inj hj; omega))
      have HO10 := hid (show w10.ownsRow w8.heap.size 57 2 (.slice (some ⟨g8, 0, none⟩) (l + L2) cap8) (l + L2) (edgeVals (restU es [(E : Int), (F : Int)] n ++ mdU s fs [a, b'] m)) by rw [edgeVals_append]; exact ho8)
      clear ho8 hgr8 hlie8 hx hy hlx HRr hO
      have HG10 := hid (HG8.out.on HB10.out)
      have HH10 := hid (HH8.out.on HB10.out)
      have HK10 := hid (HK8.out.on HB10.out)
      have HN10 := hid (HN8.out.on HB10.out)
      have HW10 := hid (bfrom HB8.out HB10.out)
      have hs10 := HB10.out.size
      have hgN8 := HgN.out
      have hu10 := HH10.out.box.1
      have ht10 := HH10.out.box.2
      have hm10 := HH10.out.lt
      clear HB10
      go_upto_region 18 with fail
      go_cut [20, 21] (fun u1 u2 wx => ∃ qa ca qb cb, u1 = .slice qa 2 ca ∧ u2 = .slice qb 2 cb ∧ Hid (FreshI w10.heap.size wx qa 2 ca A) ∧ Hid (FreshI w10.heap.size wx qb 2 cb B) ∧ Hid (Below w10.heap.size w10 wx))
      case first =>
        go_region_with (first
          | (go_at_call_of 31 (Value.int .i64 a); refine (sEndsD_any (L := A) HD.out.exA HD.out.lenA Hn2.out (Hr2'.out.on HW10.out.drew) G2.out Ha.out).mono ?_; rintro e' w11 ⟨qa, ca, rfl, hfa, hb11⟩; have HB11 := hid (bfrom (w := w10) (Below.refl _ _).drew hb11); have HFa := hid hfa; clear hfa; have hu11 := ((bcells HB11.out).1 _ 0 hm10).trans hu10; have ht11 := ((bcells HB11.out).1 _ 1 hm10).trans ht10)
          | (go_at_call_of 31 (Value.int .i64 b'); refine (sEndsD_any (L := B) HD.out.exB HD.out.lenB Hn2.out (Hr2'.out.on (bfrom HW10.out HB11.out)) G2.out Hb.out).mono ?_; rintro e' w12 ⟨qb, cb, rfl, hfb, hb12⟩; have HB12 := hid (bfrom HB11.out hb12); have HFa12 := hid (HFa.out.on hb12); have HFb := hid hfb; clear hfb))
        all_goals (go_wp2_with fail; go_meet; exact ⟨qa, ca, qb, cb, rfl, rfl, hid (FreshI.less HFa12.out (Nat.le_refl _)), hid (FreshI.less HFb.out HB11.out.size), HB12⟩)
      case rest =>
      obtain ⟨qa, ca, qb, cb, rfl, rfl, hFa, hFb, hBc⟩ := hcut
      obtain ⟨w12, rfl⟩ : ∃ w12, w12 = wc := ⟨_, rfl⟩
      rcases hFa.out.form with ⟨_, h0, _⟩ | ⟨ga, rfl, hga, hoa⟩
      · omega
      rcases hFb.out.form with ⟨_, h0, _⟩ | ⟨gb, rfl, hgb, hob⟩
      · omega
      have hbc := hBc.out
      have HW12 := hid (show DotW w s (some ⟨b, off, none⟩) n c t (some ⟨b2, o2, none⟩) m d gN capN (nmL s [a, b'] M) ga ca A gb cb B w12 from ⟨HG10.out.on hbc, HH10.out.on hbc, HK10.out.on hbc, HN10.out.on hbc, hoa, hob, bfrom HW10.out hbc⟩)
      have HO12 := hid (HO10.out.kept (below_grown hbc) (.inr (by simp [Value.ownBlock])))
      have HE12 := hid (show gN ≠ g8 ∧ ga ≠ g8 ∧ gb ≠ g8 ∧ w8.heap.size ≤ g8 from ⟨by omega, by omega, by omega, hg8⟩)
      have hszr12 : w8.heap.size ≤ w12.heap.size := by have := hbc.size; omega
      clear hFa hFb hBc hoa hob hbc hu10 ht10 hm10 HG10 HH10 HK10 HN10 HW10 HO10 hga hgb hgl8 hg8 hgN8 hs10 hszr
      obtain ⟨LR, hLR⟩ : ∃ LR, restU es [(E : Int), (F : Int)] n ++ mdU s fs [a, b'] m = LR := ⟨_, rfl⟩
      rw [hLR] at HO12 HT
      have hlR : LR.length = l + L2 := by rw [← hLR, List.length_append, hl.out, HL2.out]
      clear hLR
      obtain ⟨l8, hl8⟩ : ∃ l8, l8 = l + L2 := ⟨_, rfl⟩
      have hl8b : l8 ≤ 60 := by omega
      rw [← hl8] at HO12 hlR ⊢
      have HlR := hid hlR
      clear hl8 hlR
      obtain ⟨X0, hX0⟩ : ∃ X : Nat, eI A 0 = X := ⟨_, (Int.toNat_of_nonneg (HD.out.inA 0 (by omega)).1).symm⟩
      obtain ⟨X1, hX1⟩ : ∃ X : Nat, eI A 1 = X := ⟨_, (Int.toNat_of_nonneg (HD.out.inA 1 (by omega)).1).symm⟩
      have hM0 : X0 < M := by have h := (HD.out.inA 0 (by omega)).2; have := HT0.out; rw [hX0] at h; omega
      have hM1 : X1 < M := by have h := (HD.out.inA 1 (by omega)).2; have := HT0.out; rw [hX1] at h; omega
      have hle : X0 ≤ X1 := by have h := HD.out.ordA; rw [hX0, hX1] at h; omega
      have hCS := hid (fun (w' : World) (hw' : DotW w s (some ⟨b, off, none⟩) n c t (some ⟨b2, o2, none⟩) m d gN capN (nmL s [a, b'] M) ga ca A gb cb B w') => dotS_of (M := M) (s := s) (a := a) (b' := b') (E := E) hw'.g1.box.2 (Hr1.out.on hw'.bel) (by have := Hn.out; omega) hw'.num hw'.oa HD.out.lenA hX0 hX1 hM0 hM1 (by have h := HD.out.outA 0 (by omega); rwa [hX0] at h) (by have h := HD.out.outA 1 (by omega); rwa [hX1] at h))
      obtain ⟨N0, hN0⟩ : ∃ N0, s + numW X0 [a, b'] 2 = N0 := ⟨_, rfl⟩
      obtain ⟨N1, hN1⟩ : ∃ N1, s + numW X1 [a, b'] 2 = N1 := ⟨_, rfl⟩
      rw [hN0, hN1] at hCS
      have HP13 := hid (show [(eA es E, s + numW (eI A 0) [a, b'] 2), (eB es E, s + numW (eI A 1) [a, b'] 2)] = [(eA es E, N0), (eB es E, N1)] by rw [hX0, hX1, hN0, hN1])
      obtain ⟨p1, p2, p3, p4, p5, p6, p7⟩ := hCS.out _ HW12.out
      obtain ⟨e1', he1'⟩ : ∃ e1', eA es E = e1' := ⟨_, rfl⟩
      obtain ⟨e2', he2'⟩ : ∃ e2', eB es E = e2' := ⟨_, rfl⟩
      rw [he1'] at p2
      rw [he2'] at p3
      rw [he1', he2'] at hCS
      have HP13e := hid (show [(eA es E, N0), (eB es E, N1)] = [(e1', N0), (e2', N1)] by rw [he1', he2'])
      have hl1 := HW12.out.g1.lt
      have hl2 := HW12.out.num.lt
      have hl3 := HW12.out.oa.lt
      have hl4 : b < w12.heap.size := reads_lt (Hr1.out.on HW12.out.bel) (by have := Hn.out; omega)
      have m1 : min (X0 : Int) (X1 : Int) = (X0 : Int) := by omega
      have m2 : max (X0 : Int) (X1 : Int) = (X1 : Int) := by omega
      have hM0' : (X0 : Int) < (M : Int) := by omega
      have hM1' : (X1 : Int) < (M : Int) := by omega
      clear hX0 hX1 hN0 hN1 he1' he2' hM0 hM1 hle
      go_upto_region 19 with fail
      go_cut [18] (fun u wx => ∃ g7 cap7, u = .slice (some ⟨g7, 0, none⟩) (l8 + 2) cap7 ∧ Hid (DotW w s (some ⟨b, off, none⟩) n c t (some ⟨b2, o2, none⟩) m d gN capN (nmL s [a, b'] M) ga ca A gb cb B wx) ∧ Hid (wx.ownsRow w8.heap.size 57 2 (.slice (some ⟨g7, 0, none⟩) (l8 + 2) cap7) (l8 + 2) (edgeVals (LR) ++ [.int .i64 e1', .int .i64 N0, .int .i64 e2', .int .i64 N1])) ∧ Hid (gN ≠ g7 ∧ ga ≠ g7 ∧ gb ≠ g7 ∧ w8.heap.size ≤ g7))
      case first =>
        go_region_held3 (fun w' => w'.cell? ⟨w.heap.size, 1, none⟩ = some (.slice (some ⟨b, off, none⟩) n c) ∧ w'.cell? ⟨b, off + E * 2, none⟩ = some (.int .i64 e1') ∧ w'.cell? ⟨b, off + E * 2 + 1, none⟩ = some (.int .i64 e2') ∧ w'.cell? ⟨ga, 0, none⟩ = some (.int .i64 (X0 : Int)) ∧ w'.cell? ⟨ga, 1, none⟩ = some (.int .i64 (X1 : Int)) ∧ w'.cell? ⟨gN, X0, none⟩ = some (.int .i64 N0) ∧ w'.cell? ⟨gN, X1, none⟩ = some (.int .i64 N1)) (first | exact ⟨p1, p2, p3, p4, p5, p6, p7⟩ | (refine ⟨?_, ?_, ?_, ?_, ?_, ?_, ?_⟩ <;> go_keep) | exact hS7) ((refine step_append_wantedX (by rfl) (.tmp 120) (.tmp 155) 26 (by rfl) w8.heap.size 57 i0 (.agg #[.int .i64 0, .int .i64 0]) 2 16 Try.underlying26 Hi.out hz0 hz1 hz2 rfl (by decide) (.slice (some ⟨g8, 0, none⟩) l8 cap8) l8 _ (by rfl) (show (w12.alloc _).ownsRow _ _ _ _ _ _ from World.ownsRow.alloc HO12.out _) ⟨w12.heap.size, 0, none⟩ 2 2 [.int .i64 e1', .int .i64 N0, .int .i64 e2', .int .i64 N1] (by rfl) rfl (World.news_of_block (cs := #[.int .i64 e1', .int .i64 N0, .int .i64 e2', .int .i64 N1]) (t := 57) (fr := (0, 0)) (heap_alloc_new _ _)) (by simp [Value.oneCell']) (by decide) (by unfold maxLen; omega) (by omega) (by simp only [drew_size, World.size_alloc]; omega) ?_; intro g7 cap7 w7' hown7 hgr7 hlie7 hgl7; have HW7 := hid (HW12.out.keep ⟨HE12.out.1, HE12.out.2.1, HE12.out.2.2.1, by have h := HE12.out.2.2.2; omega⟩ hgr7); have hS7 := hCS.out _ HW7.out; have HE7 := hid (dotE_next HE12.out HW12.out hszr12 hlie7); have Hown := hid hown7; clear hown7))
        all_goals (go_wp2_with fail; go_meet; exact ⟨g7, cap7, rfl, HW7, Hown, HE7⟩)
      case rest =>
      obtain ⟨g13, cap13, rfl, hW13, hO13, hE13⟩ := hcut
      obtain ⟨w13, rfl⟩ : ∃ w13, w13 = wc := ⟨_, rfl⟩
      have HW13 := hid hW13.out
      have HO13 := hid (show w13.ownsRow w8.heap.size 57 2 (.slice (some ⟨g13, 0, none⟩) (l8 + 2) cap13) (l8 + 2) (edgeVals (LR ++ [(e1', N0), (e2', N1)])) by rw [edgeVals_append]; exact hO13.out)
      rw [← HP13e.out, ← HP13.out] at HO13
      have HE13 := hid hE13.out
      clear hW13 hO13 hE13 p1 p2 p3 p4 p5 p6 p7 hl1 hl2 hl3 hl4 m1 m2 hM0' hM1' hCS HP13 HP13e HW12 HO12 HE12
      have hszr13 : w8.heap.size ≤ w13.heap.size := by have h := HW13.out.num.lt; have := HO13.out.lt g13 rfl; omega
      obtain ⟨X0, hX0⟩ : ∃ X : Nat, eI B 0 = X := ⟨_, (Int.toNat_of_nonneg (HD.out.inB 0 (by omega)).1).symm⟩
      obtain ⟨X1, hX1⟩ : ∃ X : Nat, eI B 1 = X := ⟨_, (Int.toNat_of_nonneg (HD.out.inB 1 (by omega)).1).symm⟩
      have hM0 : X0 < M := by have h := (HD.out.inB 0 (by omega)).2; have := HT0.out; rw [hX0] at h; omega
      have hM1 : X1 < M := by have h := (HD.out.inB 1 (by omega)).2; have := HT0.out; rw [hX1] at h; omega
      have hle : X0 ≤ X1 := by have h := HD.out.ordB; rw [hX0, hX1] at h; omega
      have hCS := hid (fun (w' : World) (hw' : DotW w s (some ⟨b, off, none⟩) n c t (some ⟨b2, o2, none⟩) m d gN capN (nmL s [a, b'] M) ga ca A gb cb B w') => dotS_of (M := M) (s := s) (a := a) (b' := b') (E := F) hw'.g1.box.2 (Hr1.out.on hw'.bel) (by have := Hn.out; omega) hw'.num hw'.ob HD.out.lenB hX0 hX1 hM0 hM1 (by have h := HD.out.outB 0 (by omega); rwa [hX0] at h) (by have h := HD.out.outB 1 (by omega); rwa [hX1] at h))
      obtain ⟨N0, hN0⟩ : ∃ N0, s + numW X0 [a, b'] 2 = N0 := ⟨_, rfl⟩
      obtain ⟨N1, hN1⟩ : ∃ N1, s + numW X1 [a, b'] 2 = N1 := ⟨_, rfl⟩
      rw [hN0, hN1] at hCS
      have HP14 := hid (show [(eA es F, s + numW (eI B 0) [a, b'] 2), (eB es F, s + numW (eI B 1) [a, b'] 2)] = [(eA es F, N0), (eB es F, N1)] by rw [hX0, hX1, hN0, hN1])
      obtain ⟨p1, p2, p3, p4, p5, p6, p7⟩ := hCS.out _ HW13.out
      obtain ⟨e1', he1'⟩ : ∃ e1', eA es F = e1' := ⟨_, rfl⟩
      obtain ⟨e2', he2'⟩ : ∃ e2', eB es F = e2' := ⟨_, rfl⟩
      rw [he1'] at p2
      rw [he2'] at p3
      rw [he1', he2'] at hCS
      have HP14e := hid (show [(eA es F, N0), (eB es F, N1)] = [(e1', N0), (e2', N1)] by rw [he1', he2'])
      have hl1 := HW13.out.g1.lt
      have hl2 := HW13.out.num.lt
      have hl3 := HW13.out.ob.lt
      have hl4 : b < w13.heap.size := reads_lt (Hr1.out.on HW13.out.bel) (by have := Hn.out; omega)
      have m1 : min (X0 : Int) (X1 : Int) = (X0 : Int) := by omega
      have m2 : max (X0 : Int) (X1 : Int) = (X1 : Int) := by omega
      have hM0' : (X0 : Int) < (M : Int) := by omega
      have hM1' : (X1 : Int) < (M : Int) := by omega
      clear hX0 hX1 hN0 hN1 he1' he2' hM0 hM1 hle
      go_upto_region 20 with fail
      go_cut [18] (fun u wx => ∃ g7 cap7, u = .slice (some ⟨g7, 0, none⟩) ((l8 + 2) + 2) cap7 ∧ Hid (DotW w s (some ⟨b, off, none⟩) n c t (some ⟨b2, o2, none⟩) m d gN capN (nmL s [a, b'] M) ga ca A gb cb B wx) ∧ Hid (wx.ownsRow w8.heap.size 57 2 (.slice (some ⟨g7, 0, none⟩) ((l8 + 2) + 2) cap7) ((l8 + 2) + 2) (edgeVals (LR ++ [(eA es E, s + numW (eI A 0) [a, b'] 2), (eB es E, s + numW (eI A 1) [a, b'] 2)]) ++ [.int .i64 e1', .int .i64 N0, .int .i64 e2', .int .i64 N1])) ∧ Hid (gN ≠ g7 ∧ ga ≠ g7 ∧ gb ≠ g7 ∧ w8.heap.size ≤ g7))
      case first =>
        go_region_held3 (fun w' => w'.cell? ⟨w.heap.size, 1, none⟩ = some (.slice (some ⟨b, off, none⟩) n c) ∧ w'.cell? ⟨b, off + F * 2, none⟩ = some (.int .i64 e1') ∧ w'.cell? ⟨b, off + F * 2 + 1, none⟩ = some (.int .i64 e2') ∧ w'.cell? ⟨gb, 0, none⟩ = some (.int .i64 (X0 : Int)) ∧ w'.cell? ⟨gb, 1, none⟩ = some (.int .i64 (X1 : Int)) ∧ w'.cell? ⟨gN, X0, none⟩ = some (.int .i64 N0) ∧ w'.cell? ⟨gN, X1, none⟩ = some (.int .i64 N1)) (first | exact ⟨p1, p2, p3, p4, p5, p6, p7⟩ | (refine ⟨?_, ?_, ?_, ?_, ?_, ?_, ?_⟩ <;> go_keep) | exact hS7) ((refine step_append_wantedX (by rfl) (.tmp 157) (.tmp 192) 26 (by rfl) w8.heap.size 57 i0 (.agg #[.int .i64 0, .int .i64 0]) 2 16 Try.underlying26 Hi.out hz0 hz1 hz2 rfl (by decide) (.slice (some ⟨g13, 0, none⟩) (l8 + 2) cap13) (l8 + 2) _ (by rfl) (show (w13.alloc _).ownsRow _ _ _ _ _ _ from World.ownsRow.alloc HO13.out _) ⟨w13.heap.size, 0, none⟩ 2 2 [.int .i64 e1', .int .i64 N0, .int .i64 e2', .int .i64 N1] (by rfl) rfl (World.news_of_block (cs := #[.int .i64 e1', .int .i64 N0, .int .i64 e2', .int .i64 N1]) (t := 57) (fr := (0, 0)) (heap_alloc_new _ _)) (by simp [Value.oneCell']) (by decide) (by unfold maxLen; omega) (by omega) (by simp only [drew_size, World.size_alloc]; omega) ?_; intro g7 cap7 w7' hown7 hgr7 hlie7 hgl7; have HW7 := hid (HW13.out.keep ⟨HE13.out.1, HE13.out.2.1, HE13.out.2.2.1, by have h := HE13.out.2.2.2; omega⟩ hgr7); have hS7 := hCS.out _ HW7.out; have HE7 := hid (dotE_next HE13.out HW13.out hszr13 hlie7); have Hown := hid hown7; clear hown7))
        all_goals (go_wp2_with fail; go_meet; exact ⟨g7, cap7, rfl, HW7, Hown, HE7⟩)
      case rest =>
      obtain ⟨g14, cap14, rfl, hW14, hO14, hE14⟩ := hcut
      obtain ⟨w14, rfl⟩ : ∃ w14, w14 = wc := ⟨_, rfl⟩
      have HW14 := hid hW14.out
      have HO14 := hid (show w14.ownsRow w8.heap.size 57 2 (.slice (some ⟨g14, 0, none⟩) ((l8 + 2) + 2) cap14) ((l8 + 2) + 2) (edgeVals (LR ++ [(eA es E, s + numW (eI A 0) [a, b'] 2), (eB es E, s + numW (eI A 1) [a, b'] 2)] ++ [(e1', N0), (e2', N1)])) by rw [edgeVals_append]; exact hO14.out)
      rw [← HP14e.out, ← HP14.out] at HO14
      have HE14 := hid hE14.out
      clear hW14 hO14 hE14 p1 p2 p3 p4 p5 p6 p7 hl1 hl2 hl3 hl4 m1 m2 hM0' hM1' hCS HP14 HP14e HW13 HO13 HE13
      rw [HT.out] at HO14
      have hTl : T.length = l8 + 2 + 2 := by rw [← HT.out, List.length_append, List.length_append, HlR.out]; rfl
      have HTl := hid hTl
      have hor := OwnE.of_row (es := T) HO14.out hTl
      have hx14 := HW14.out.g1.box.1
      have hy14 := HW14.out.g1.box.2
      have hl14 := HW14.out.g1.lt
      have hu14 := HW14.out.g2.box.1
      have ht14 := HW14.out.g2.box.2
      have hm14 := HW14.out.g2.lt
      have HOr := hid hor.1
      clear hor hTl
      go_wp2_with fail
      refine (sMade_any (s + t - 2) g14 0 (l8 + 2 + 2) cap14 T _ (by omega) HTl.out HOr.out.reads).mono ?_
      rintro e' w15 ⟨q, cq, rfl, hf15, hb15⟩
      have HB15 := hid (bfrom HW14.out.bel hb15)
      have HK15 := hid (HW14.out.g3.on hb15)
      have hszB := HW14.out.bel.size
      have HF15 := hid hf15
      have hkl := HW14.out.g3.lt
      clear hb15 hf15 hx14 hy14 hl14 hu14 ht14 hm14
      have hxk := HK15.out.box.1
      have hyk := HK15.out.box.2
      have hfka := HK15.out.frozen 0
      have hfkb := HK15.out.frozen 1
      rename_i K1 hK1 K2 hK2
      have HhK1 := hid hK1
      clear hK1
      go_wp2_with fail
      refine HhK1.out _ _ (wp_ret ?_)
      show bodyPost _ _ _ _ _ _
      rw [HTl.out]
      refine bodyPost_ret (v := .tuple #[.agg #[.int .i64 (s + t - 2), .slice q (l8 + 2 + 2) cq], .int .i64 0]) (by simp [results, Try.results7, go_sem, hxk, hyk]) rfl ⟨q, cq, rfl, ?_, ?_⟩
      · exact (((HF15.out.less (B' := w14.heap.size) (Nat.le_refl _)).far (a := ⟨w.heap.size + 1 + 1, 0, none⟩) hkl _).far (a := ⟨w.heap.size + 1 + 1, 1, none⟩) hkl _).less hszB
      · have h := HB15.out
        go_grown

end Go.Proofs.Ytfdlhdgmbjdhbaa
