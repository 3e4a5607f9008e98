/- StarProduct in the model: the product. -/
import Derived.Test.YtpadnliebimceaaStrB
import Derived.Test.YtpadnliebimceaaClone
import Derived.Deep.RegionWith
import Derived.Deep.DeepCutAuto
namespace Go.Proofs.Ytpadnliebimceaa
open Go.RowKit Go.Lib

theorem filt_split (p : Nat → Bool) : ∀ l : List Nat, (l.filter p).length + (l.filter fun x => !p x).length = l.length
  | [] => rfl
  | a :: l => by
    have h := filt_split p l
    cases hp : p a <;> simp [hp] <;> omega
theorem outG_one (es : List (Int × Int)) (v : Int) (i : Nat) : outG es [v] i = !onE es v i := by
  unfold outG onE
  rw [Bool.not_or]
  have e1 : decide (eA es i ∈ [v]) = (eA es i == v) := by rw [Bool.eq_iff_iff]; simp
  have e2 : decide (eB es i ∈ [v]) = (eB es i == v) := by rw [Bool.eq_iff_iff]; simp
  rw [e1, e2]
theorem mdU_three {s : Int} {es : List (Int × Int)} (g : IsG s es) {v : Int} (hv : 0 ≤ v ∧ v < s) (f : Int) : (mdU f es [v] es.length).length + 3 = es.length := by
  have h3 := atF_three g hv.1 hv.2
  rw [onL_at, List.length_map] at h3
  have h := filt_split (onE es v) (List.range es.length)
  rw [List.length_range] at h
  unfold mdU
  rw [List.length_map, show (List.range es.length).filter (outG es [v]) = (List.range es.length).filter (fun x => !onE es v x) from List.filter_congr fun i _ => outG_one es v i]
  unfold onL at h3
  omega
/-- The first k of the edges that join the two parts, in the model. -/
def jnU (s : Int) (es : List (Int × Int)) (v : Int) (fs : List (Int × Int)) (x : Int) (k : Nat) : List (Int × Int) := (List.range k).map fun i => (numW (eI (endsF es v) i) [v] 1, (s - 1) + numW (eI (endsF fs x) i) [x] 1)
theorem jnU_succ (s : Int) (es : List (Int × Int)) (v : Int) (fs : List (Int × Int)) (x : Int) (k : Nat) : jnU s es v fs x (k + 1) = jnU s es v fs x k ++ [(numW (eI (endsF es v) k) [v] 1, (s - 1) + numW (eI (endsF fs x) k) [x] 1)] := by
  unfold jnU
  rw [List.range_succ, List.map_append]
  rfl
theorem jnU_len (s : Int) (es : List (Int × Int)) (v : Int) (fs : List (Int × Int)) (x : Int) (k : Nat) : (jnU s es v fs x k).length = k := by simp [jnU]
theorem sEndsAll_any (s v : Int) (b off n c : Nat) (es : List (Int × Int)) (w : World) (hn : es.length = n) (hr : ReadsE w b off es) (g : IsG s es) (hv : 0 ≤ v ∧ v < s) :
    Calls Try.prog 64 #[.agg #[.int .i64 s, .slice (some ⟨b, off, none⟩) n c], .int .i64 v, .int .i64 (-1)] w fun e w' => ∃ q cap, e = .returned (.slice q 3 cap) ∧ FreshI w.heap.size w' q 3 cap (endsF es v) ∧ Below w.heap.size w w' := by
  have h := sEndsX_any s v (-1) b off n c es w hn hr g hv
  rw [exU_all g hv, endsF_three g hv.1 hv.2] at h
  exact h
/-- What is known behind the append of a joining edge. -/
theorem star_facts {w wo w7 : World} {gN1 gN2 ga gb g g7 capN1 capN2 ca cb b off n c b2 o2 m d k X Y l cap : Nat} {s t a1 d1 : Int} {L1 L2 La Lb : List Int} {o : Obj} {B : Nat} (hD : gN1 ≠ g ∧ gN2 ≠ g ∧ ga ≠ g ∧ gb ≠ g ∧ B ≤ g)
    (hN : OwnI wo gN1 capN1 L1 ∧ OwnI wo gN2 capN2 L2 ∧ OwnI wo ga ca La ∧ OwnI wo gb cb Lb) (hG : GBox wo w.heap.size s (some ⟨b, off, none⟩) n c ∧ GBox wo (w.heap.size + 1) t (some ⟨b2, o2, none⟩) m d ∧ GBox wo (w.heap.size + 1 + 1) 0 none 0 0) (hB : Below w.heap.size w wo)
    (hca : wo.cell? ⟨ga, k, none⟩ = some (.int .i64 (X : Int))) (hcb : wo.cell? ⟨gb, k, none⟩ = some (.int .i64 (Y : Int))) (hda : wo.cell? ⟨gN1, X, none⟩ = some (.int .i64 a1)) (hdb : wo.cell? ⟨gN2, Y, none⟩ = some (.int .i64 d1)) (hBw : w.heap.size + 1 + 1 < B) (hBs : B ≤ wo.heap.size)
    (hgr : (wo.alloc o).drew.grownBy w7 (Value.slice (some ⟨g, 0, none⟩) l cap).ownBlock) (hlie : (Value.slice (some ⟨g, 0, none⟩) l cap).ownBlock = some g7 ∨ g7 = (wo.alloc o).drew.heap.size) :
    w7.cell? ⟨ga, k, none⟩ = some (.int .i64 (X : Int)) ∧ w7.cell? ⟨gb, k, none⟩ = some (.int .i64 (Y : Int)) ∧ w7.cell? ⟨gN1, X, none⟩ = some (.int .i64 a1) ∧ w7.cell? ⟨gN2, Y, none⟩ = some (.int .i64 d1) ∧ Hid (gN1 ≠ g7 ∧ gN2 ≠ g7 ∧ ga ≠ g7 ∧ gb ≠ g7 ∧ B ≤ g7) ∧
    Hid (OwnI w7 gN1 capN1 L1 ∧ OwnI w7 gN2 capN2 L2 ∧ OwnI w7 ga ca La ∧ OwnI w7 gb cb Lb) ∧ Hid (GBox w7 w.heap.size s (some ⟨b, off, none⟩) n c ∧ GBox w7 (w.heap.size + 1) t (some ⟨b2, o2, none⟩) m d ∧ GBox w7 (w.heap.size + 1 + 1) 0 none 0 0) ∧ Hid (Below w.heap.size w w7) := by
  have keep : ∀ y, y < wo.heap.size → y ≠ g → w7.heap[y]? = wo.heap[y]? := fun y hy hne => (hgr.block y (by simp only [World.size_alloc, drew_size]; omega) (fun e => hne (Option.some.inj e))).trans (Below.heap_alloc wo _ y hy)
  have n1 := hN.1.lt
  have n2 := hN.2.1.lt
  have na := hN.2.2.1.lt
  have nb := hN.2.2.2.lt
  have l3 := hG.2.2.lt
  have K1 := keep gN1 n1 hD.1
  have K2 := keep gN2 n2 hD.2.1
  have Ka := keep ga na hD.2.2.1
  have Kb := keep gb nb hD.2.2.2.1
  have hg := hD.2.2.2.2
  refine ⟨(World.cell?_of_block (w := wo) Ka).trans hca, (World.cell?_of_block (w := wo) Kb).trans hcb, (World.cell?_of_block (w := wo) K1).trans hda, (World.cell?_of_block (w := wo) K2).trans hdb, hid ?_, hid ⟨hN.1.keep K1, hN.2.1.keep K2, hN.2.2.1.keep Ka, hN.2.2.2.keep Kb⟩, hid ⟨hG.1.keep (keep _ (by omega) (by omega)), hG.2.1.keep (keep _ (by omega) (by omega)), hG.2.2.keep (keep _ l3 (by omega))⟩, hid ?_⟩
  · rcases hlie with h | h
    · have e : g = g7 := Option.some.inj h
      subst e
      exact hD
    · simp only [World.size_alloc, drew_size] at h
      exact ⟨by omega, by omega, by omega, by omega, by omega⟩
  · exact ((hB.alloc hB.size _).drew).grown hgr (by simp only [World.size_alloc, drew_size]; have := hB.size; omega) (fun j hj => by have e : g = j := Option.some.inj hj; omega)

set_option maxRecDepth 100000 in
set_option maxHeartbeats 16000000 in
theorem sSp_yes (b off n c b2 o2 m d : Nat) (s t v x : Int) (es fs : List (Int × Int)) (w : World) (hn : es.length = n) (hr : ReadsE w b off es) (hn2 : fs.length = m) (hr2 : ReadsE w b2 o2 fs) (g1 : IsG s es) (g2 : IsG t fs) (hv : 0 ≤ v ∧ v < s) (hx : 0 ≤ x ∧ x < t) (hN4 : 4 ≤ s) (hM4 : 4 ≤ t) (hNM : s + t ≤ 22) :
    Calls Try.prog 30 #[.agg #[.int .i64 s, .slice (some ⟨b, off, none⟩) n c], .int .i64 v, .agg #[.int .i64 t, .slice (some ⟨b2, o2, none⟩) m d], .int .i64 x] w fun e' w' => ∃ q cap, e' = .returned (.tuple #[.agg #[.int .i64 (s + t - 2), .slice q (starM s es v fs x).length cap], .int .i64 0]) ∧ FreshE w.heap.size w' q (starM s es v fs x).length cap (sortE (starM s es v fs x)) ∧ Below w.heap.size w w' := by
  have hn30 : n ≤ 30 := by have := isG_len g1; omega
  have hm30 : m ≤ 30 := by have := isG_len g2; omega
  have hL1 : (mdU 0 es [v] n).length + 3 = n := by rw [← hn]; exact mdU_three g1 hv 0
  have hL2 : (mdU (s - 1) fs [x] m).length + 3 = m := by rw [← hn2]; exact mdU_three g2 hx _
  have hm6 : 6 ≤ m := by have := g2.1.1; unfold okSize at this; omega
  obtain ⟨N, hs0⟩ : ∃ N : Nat, (N : Int) = s := ⟨s.toNat, Int.toNat_of_nonneg (by omega)⟩
  obtain ⟨M, ht0⟩ : ∃ M : Nat, (M : Int) = t := ⟨t.toNat, Int.toNat_of_nonneg (by omega)⟩
  have HS0 := hid hs0
  have HT0 := hid ht0
  have hE1 : EndsIn N es := endsIn_of (by rw [hs0]; exact g1)
  have hE2 : EndsIn M fs := endsIn_of (by rw [ht0]; exact g2)
  have HNd1 := hid (show [v].Nodup by simp)
  have HNd2 := hid (show [x].Nodup by simp)
  have HP1 := hid (show ∀ y, y ∈ [v] → 0 ≤ y from fun y h => by rw [List.mem_singleton.1 h]; exact hv.1)
  have HP2 := hid (show ∀ y, y ∈ [x] → 0 ≤ y from fun y h => by rw [List.mem_singleton.1 h]; exact hx.1)
  have HS := hid (show starM s es v fs x = mdU 0 es [v] n ++ mdU (s - 1) fs [x] m ++ jnU s es v fs x 3 by rw [← hn, ← hn2]; rfl)
  have Hn := hid hn
  have Hn2 := hid hn2
  have Hr1 := hid hr
  have Hr2' := hid hr2
  have Hr : Hid (SeesE w (some ⟨b, off, none⟩) es) := hid (.inr ⟨b, off, rfl, hr⟩)
  have Hr2 : Hid (SeesE w (some ⟨b2, o2, none⟩) fs) := hid (.inr ⟨b2, o2, rfl, hr2⟩)
  have G1 := hid g1
  have G2 := hid g2
  have EI1 := hid hE1
  have EI2 := hid hE2
  have Hv := hid hv
  have Hx := hid hx
  have Q1 := hid (show vertsCode s es [v] = 0 by rw [verts_one, if_pos g1, if_pos hv])
  have Q2 := hid (show vertsCode t fs [x] = 0 by rw [verts_one, if_pos g2, if_pos hx])
  have h1 : (s == 2) = false := by rw [beq_eq_false_iff_ne]; omega
  have h2 : (t == 2) = false := by rw [beq_eq_false_iff_ne]; omega
  have h3 : decide (20 < s + t - 2) = false := decide_eq_false (by omega)
  have e1 : IntKind.i64.wrap (s + t) = s + t := IntWalk.i64_in _ (by omega)
  have e2 : IntKind.i64.wrap (s + t - 2) = s + t - 2 := IntWalk.i64_in _ (by omega)
  have e3 : IntKind.i64.wrap (s - 1) = s - 1 := IntWalk.i64_in _ (by omega)
  obtain ⟨i0, hi, hz0, hz1, hz2⟩ := info_parts infoEdge
  have Hi := hid hi
  have HAr := hid (show 4 ≤ s ∧ 4 ≤ t ∧ s + t ≤ 22 ∧ n ≤ 30 ∧ m ≤ 30 ∧ 6 ≤ m ∧ (mdU 0 es [v] n).length + 3 = n ∧ (mdU (s - 1) fs [x] m).length + 3 = m ∧ N ≤ 20 ∧ M ≤ 20 ∧ 4 ≤ N ∧ 4 ≤ M from ⟨hN4, hM4, hNM, hn30, hm30, hm6, hL1, hL2, by omega, by omega, by omega, by omega⟩)
  clear hn hr hn2 hr2 g1 g2 hv hx hi hE1 hE2 hN4 hM4 hNM hn30 hm30 hm6 hL1 hL2 hs0 ht0
  go_enter Try.func30, Try.ntmps30
  go_wp2_with fail
  refine (sIs_any _ _ _ _ es _ (by have ar := HAr.out; omega) Hn.out (Hr.out.on (bfrom (bfrom (on_alloc _ _) (on_alloc _ _)) (on_alloc _ _)))).mono ?_
  rw [decide_eq_true G1.out]
  rintro e' w2 ⟨rfl, hb2⟩
  have HB2 := hid (bfrom (w := w) (bfrom (bfrom (on_alloc _ _) (on_alloc _ _)) (on_alloc _ _)) hb2)
  have H2 := hb2
  obtain ⟨hc2, hf2⟩ := bcells H2
  have hz2 := H2.size
  simp at hz2
  go_wp2_with fail
  refine (sIs_any _ _ _ _ fs _ (by have ar := HAr.out; omega) Hn2.out (Hr2.out.on HB2.out)).mono ?_
  rw [decide_eq_true G2.out]
  rintro e' w3 ⟨rfl, hb3⟩
  have HB3 := hid (bfrom (w := w) HB2.out hb3)
  have H3 := bfrom H2 hb3
  obtain ⟨hc3, hf3⟩ := bcells H3
  have hz3 := H3.size
  simp at hz3
  clear hc2 hf2 hz2 hb3
  go_wp2_with fail
  refine (sVert6_any s _ _ _ w3.heap.size 0 1 1 es [v] _ (by have ar := HAr.out; omega) Hn.out (Hr.out.on (bfrom HB3.out (on_alloc _ _))) rfl (by have ar := HAr.out; omega) (reads_one _ _ _ _ rfl)).mono ?_
  rw [Q1.out]
  rintro e' w4 ⟨rfl, hb4⟩
  have HB4 := hid (bfrom (w := w) (bfrom HB3.out (on_alloc _ _)) hb4)
  have H4 := bfrom (bfrom H3 (on_alloc _ _)) hb4
  obtain ⟨hc4, hf4⟩ := bcells H4
  have hz4 := H4.size
  simp at hz4
  clear hc3 hf3 hz3 hb4
  go_wp2_with fail
  refine (sVert6_any t _ _ _ w4.heap.size 0 1 1 fs [x] _ (by have ar := HAr.out; omega) Hn2.out (Hr2.out.on (bfrom HB4.out (on_alloc _ _))) rfl (by have ar := HAr.out; omega) (reads_one _ _ _ _ rfl)).mono ?_
  rw [Q2.out]
  rintro e' w5 ⟨rfl, hb5⟩
  have HB5 := hid (bfrom (w := w) (bfrom HB4.out (on_alloc _ _)) hb5)
  have H5 := bfrom (bfrom H4 (on_alloc _ _)) hb5
  obtain ⟨hc5, hf5⟩ := bcells H5
  have hz5 := H5.size
  simp at hz5
  clear hc4 hf4 hz4 hb5
  have HG5 : Hid (GBox w5 w.heap.size s (some ⟨b, off, none⟩) n c) := hid ((((GBox.new w w.heap.size rfl).on (on_alloc _ _)).on (on_alloc _ _)).on H5)
  have HH5 : Hid (GBox w5 (w.heap.size + 1) t (some ⟨b2, o2, none⟩) m d) := hid (((GBox.new _ _ (by simp)).on (on_alloc _ _)).on H5)
  have HK5 : Hid (GBox w5 (w.heap.size + 1 + 1) 0 none 0 0) := hid ((GBox.new _ _ (by simp)).on H5)
  clear hc5 hf5 hz5 H2 H3 H4 H5 HB2 HB3 HB4
  have hx5 := HG5.out.box.1
  have hy5 := HG5.out.box.2
  have hl5 := HG5.out.lt
  have hu5 := HH5.out.box.1
  have ht5 := HH5.out.box.2
  have hm5 := HH5.out.lt
  go_wp2_with fail
  have W6 := sWithout_any N b off n c w5.heap.size 0 1 1 0 es [v] (w5.alloc (.cells #[.int .i64 v] 2)) Hn.out (by have ar := HAr.out; omega) (by have ar := HAr.out; omega) (by have ar := HAr.out; omega) (Hr1.out.on (bfrom HB5.out (on_alloc _ _))) EI1.out (by have ar := HAr.out; omega) rfl (by have ar := HAr.out; omega) (reads_one _ _ _ _ rfl) HNd1.out HP1.out (by simp)
  rw [HS0.out] at W6
  refine W6.mono ?_
  clear W6
  obtain ⟨L1, hLL1⟩ : ∃ L1, (mdU 0 es [v] n).length = L1 := ⟨_, rfl⟩
  rw [hLL1]
  rintro e' w6 ⟨gN1, capN1, q1, cap1, rfl, hf6, ⟨hgN1, hoN1, hne1⟩, hb6⟩
  have HLL1 := hid hLL1
  have HG6 := hid ((HG5.out.on (on_alloc _ _)).on hb6)
  have HH6 := hid ((HH5.out.on (on_alloc _ _)).on hb6)
  have HK6 := hid ((HK5.out.on (on_alloc _ _)).on hb6)
  have HB6 := hid (bfrom (bfrom HB5.out (on_alloc _ _)) hb6)
  have HN6 := hid hoN1
  have HF6 := hid hf6
  have HE6 := hid hne1
  have hk56 : w.heap.size + 1 + 1 < w5.heap.size := HK5.out.lt
  have hs6 : w5.heap.size < w6.heap.size := by have h := hb6.size; simp at h; omega
  clear hb6 hoN1 hf6 hne1 hLL1 hx5 hy5 hl5 hu5 ht5 hm5 HG5 HH5 HK5 HB5
  have hx6 := HG6.out.box.1
  have hy6 := HG6.out.box.2
  have hl6 := HG6.out.lt
  have hu6 := HH6.out.box.1
  have ht6 := HH6.out.box.2
  have hm6' := HH6.out.lt
  go_wp2_with fail
  have W7 := sWithout_any M b2 o2 m d w6.heap.size 0 1 1 (s - 1) fs [x] (w6.alloc (.cells #[.int .i64 x] 2)) Hn2.out (by have ar := HAr.out; omega) (by have ar := HAr.out; omega) (by have ar := HAr.out; omega) (Hr2'.out.on (bfrom HB6.out (on_alloc _ _))) EI2.out (by have ar := HAr.out; omega) rfl (by have ar := HAr.out; omega) (reads_one _ _ _ _ rfl) HNd2.out HP2.out (by simp)
  rw [HT0.out] at W7
  refine W7.mono ?_
  clear W7
  obtain ⟨L2, hLL2⟩ : ∃ L2, (mdU (s - 1) fs [x] m).length = L2 := ⟨_, rfl⟩
  rw [hLL2]
  rintro e' w7 ⟨gN2, capN2, q2, cap2, rfl, hf7, ⟨hgN2, hoN2, hne2⟩, hb7⟩
  have HLL2 := hid hLL2
  have HG7 := hid ((HG6.out.on (on_alloc _ _)).on hb7)
  have HH7 := hid ((HH6.out.on (on_alloc _ _)).on hb7)
  have HK7 := hid ((HK6.out.on (on_alloc _ _)).on hb7)
  have HB7 := hid (bfrom (bfrom HB6.out (on_alloc _ _)) hb7)
  have HN7 := hid ((HN6.out.on (on_alloc _ _)).on hb7)
  have HF7 := hid ((HF6.out.on (on_alloc _ _)).on hb7)
  have HM7 := hid hoN2
  have hs7 : w6.heap.size < w7.heap.size := by have h := hb7.size; simp at h; omega
  obtain ⟨b7, o7, rfl, hr7⟩ : ∃ b7 o7, q2 = some ⟨b7, o7, none⟩ ∧ ReadsE w7 b7 o7 (mdU (s - 1) fs [x] m) := by
    rcases hf7.sees with h | ⟨b7, o7, h, h'⟩
    · exact absurd (congrArg List.length h) (by rw [hLL2]; have ar := HAr.out; simp; omega)
    · exact ⟨b7, o7, h, h'⟩
  have HR7 := hid hr7
  have hgN6 := HN6.out.lt
  have hgN7 := HM7.out.lt
  simp only [World.size_alloc] at hgN1 hgN2
  have HF6' := HF6
  clear hb7 hoN2 hf7 hne2 hLL2 hr7 hx6 hy6 hl6 hu6 ht6 hm6' HG6 HH6 HK6 HB6 HN6 HF6
  go_wp2_with (at_builtin; refine wpList_append_lies _ rfl (.tmp 77) (.tmp 78) 22 rfl (w5.heap.size + 1) 85 i0 (.agg #[.int .i64 0, .int .i64 0]) 2 16 Try.underlying22 Hi.out hz0 hz1 hz2 rfl (by decide) (.slice q1 L1 cap1) L1 (edgeVals (mdU 0 es [v] n)) rfl ?own ⟨b7, o7, none⟩ L2 cap2 (edgeVals (mdU (s - 1) fs [x] m)) rfl ?qc1 ?qc2 ?qc3 ?qm ?qc4 ?qc5 ?qc6 w7.heap.size rfl ?_)
  case own => exact (HF7.out.less (by simp)).1
  case qc1 => rw [edgeVals_length, HLL2.out]
  case qc2 =>
    intro j u hj
    rw [Addr.add_lit]
    exact reads_vals HR7.out j u hj
  case qc3 => exact vals_one _
  case qm => have ar := HAr.out; have := HLL2.out; omega
  case qc4 => unfold maxLen; have ar := HAr.out; have := HLL1.out; have := HLL2.out; omega
  case qc5 => have ar := HAr.out; have := HLL1.out; have := HLL2.out; omega
  case qc6 => omega
  intro g8 cap8 w8 ho8 hg8 hlie8 hgl8
  have HO8 := hid ho8
  have hrow7 : ∀ g, (Value.slice q1 L1 cap1).ownBlock = some g → w5.heap.size + 1 ≤ g := fun g h => by have := (HF7.out.own h).1; simp at this; omega
  have hge : w.heap.size + 1 + 1 < w5.heap.size + 1 := by omega
  have HG8 := hid (HG7.out.keep (hg8.block _ HG7.out.lt (fun e => by have := hrow7 _ e.symm; omega)))
  have HH8 := hid (HH7.out.keep (hg8.block _ HH7.out.lt (fun e => by have := hrow7 _ e.symm; omega)))
  have HK8 := hid (HK7.out.keep (hg8.block _ HK7.out.lt (fun e => by have := hrow7 _ e.symm; omega)))
  have hs8 : w7.heap.size ≤ w8.heap.size := hg8.size
  have hqN : ∀ g, (Value.slice q1 L1 cap1).ownBlock = some g → gN1 ≠ g := HE6.out
  have HN8 := hid (HN7.out.keep (hg8.block _ HN7.out.lt (fun e => hqN _ e.symm rfl)))
  have HM8 := hid (HM7.out.keep (hg8.block _ HM7.out.lt (fun e => by have h := (HF6'.out.own e.symm).2; omega)))
  have HB8 := hid (HB7.out.grown hg8 HB7.out.size (fun k hk => by have := hrow7 k hk; omega))
  have hX8 : gN1 ≠ g8 ∧ gN2 ≠ g8 ∧ w5.heap.size + 1 ≤ g8 := by
    rcases hlie8 with h | h
    · refine ⟨hqN _ h, ?_, hrow7 _ h⟩
      have h := (HF6'.out.own h).2
      omega
    · omega
  have HX8 := hid hX8
  clear hX8 hlie8 ho8 hg8 hqN hrow7 HG7 HH7 HK7 HN7 HM7 HF7 HF6' HR7 HE6 HB7
  have hx8 := HG8.out.box.1
  have hy8 := HG8.out.box.2
  have hl8 := HG8.out.lt
  have hu8 := HH8.out.box.1
  have ht8 := HH8.out.box.2
  have hm8 := HH8.out.lt
  go_upto_region 12 with fail
  go_cut [14, 15] (fun u1 u2 wx => ∃ qa ca qb cb, u1 = .slice qa 3 ca ∧ u2 = .slice qb 3 cb ∧ Hid (FreshI w8.heap.size wx qa 3 ca (endsF es v)) ∧ Hid (FreshI w8.heap.size wx qb 3 cb (endsF fs x)) ∧ Hid (Below w8.heap.size w8 wx))
  case first =>
    go_region_with (first
      | (go_at_call_of 64 (Value.agg #[Value.int .i64 s, Value.slice (some ⟨b, off, none⟩) n c]); refine (sEndsAll_any s v b off n c es _ Hn.out (Hr1.out.on HB8.out.drew) G1.out Hv.out).mono ?_; rintro e' w9 ⟨qa, ca, rfl, hfa, hb9⟩; have HB9 := hid (bfrom (w := w8) (Below.refl _ _).drew hb9); have HFa := hid hfa; clear hfa; have hu9 := ((bcells HB9.out).1 _ 0 hm8).trans hu8; have ht9 := ((bcells HB9.out).1 _ 1 hm8).trans ht8)
      | (go_at_call_of 64 (Value.agg #[Value.int .i64 t, Value.slice (some ⟨b2, o2, none⟩) m d]); refine (sEndsAll_any t x b2 o2 m d fs _ Hn2.out (Hr2'.out.on (bfrom HB8.out HB9.out)) G2.out Hx.out).mono ?_; rintro e' w10 ⟨qb, cb, rfl, hfb, hb10⟩; have HB10 := hid (bfrom HB9.out hb10); have HFa10 := hid (HFa.out.on hb10); have HFb := hid hfb; clear hfb))
    all_goals (go_wp2_with fail; go_meet; exact ⟨qa, ca, qb, cb, rfl, rfl, hid (FreshI.less HFa10.out (Nat.le_refl _)), hid (FreshI.less HFb.out HB9.out.size), HB10⟩)
  case rest =>
  obtain ⟨qa, ca, qb, cb, rfl, rfl, hFa, hFb, hBc⟩ := hcut
  obtain ⟨w10, rfl⟩ : ∃ w10, w10 = wc := ⟨_, rfl⟩
  rcases hFa.out.form with ⟨_, h0, _⟩ | ⟨ga, rfl, hga, hoa⟩
  · omega
  rcases hFb.out.form with ⟨_, h0, _⟩ | ⟨gb, rfl, hgb, hob⟩
  · omega
  have hbc := hBc.out
  have HG9 := hid (HG8.out.on hbc)
  have HH9 := hid (HH8.out.on hbc)
  have HK9 := hid (HK8.out.on hbc)
  have HB9 := hid (bfrom HB8.out hbc)
  have HN9 := hid (And.intro (HN8.out.on hbc) (And.intro (HM8.out.on hbc) (And.intro hoa hob)))
  have HO9 := hid (HO8.out.kept (below_grown hbc) (.inr (by simp [Value.ownBlock])))
  rw [← edgeVals_append] at HO9
  obtain ⟨A, hA⟩ : ∃ A, mdU 0 es [v] n ++ mdU (s - 1) fs [x] m = A := ⟨_, rfl⟩
  rw [hA] at HO9
  have HA := hid hA
  obtain ⟨J, hJ⟩ : ∃ J : Nat → List (Int × Int), J = fun k => jnU s es v fs x k := ⟨_, rfl⟩
  have HJ := hid hJ
  have HD9 := hid (show gN1 ≠ g8 ∧ gN2 ≠ g8 ∧ ga ≠ g8 ∧ gb ≠ g8 ∧ w5.heap.size + 1 ≤ g8 from ⟨HX8.out.1, HX8.out.2.1, by omega, by omega, HX8.out.2.2⟩)
  clear hFa hFb hBc hoa hob hbc hA hJ hx8 hy8 hl8 hu8 ht8 hm8 HG8 HH8 HK8 HB8 HN8 HM8 HO8 HX8 hga hgb hgl8 hs8 hs7 hs6 hgN1 hgN2 hgN6 hgN7 hge
  go_wp2_with fail
  go_loopw [10, 16] (fun u i wi => ∃ (k l cap g : Nat), k ≤ 3 ∧ Hid (l = L1 + L2 + k) ∧ u = .slice (some ⟨g, 0, none⟩) l cap ∧ i = .int .i64 k ∧ Hid (wi.ownsRow (w5.heap.size + 1) 85 2 (.slice (some ⟨g, 0, none⟩) l cap) l (edgeVals (A ++ J k))) ∧ Hid (gN1 ≠ g ∧ gN2 ≠ g ∧ ga ≠ g ∧ gb ≠ g ∧ w5.heap.size + 1 ≤ g) ∧ Hid (OwnI wi gN1 capN1 (nmL 0 [v] N) ∧ OwnI wi gN2 capN2 (nmL (s - 1) [x] M) ∧ OwnI wi ga ca (endsF es v) ∧ OwnI wi gb cb (endsF fs x)) ∧ Hid (GBox wi w.heap.size s (some ⟨b, off, none⟩) n c ∧ GBox wi (w.heap.size + 1) t (some ⟨b2, o2, none⟩) m d ∧ GBox wi (w.heap.size + 1 + 1) 0 none 0 0) ∧ Hid (Below w.heap.size w wi)) (fun _ i _ => 3 - (intOf i).toNat)
  case atStart => exact ⟨0, L1 + L2, cap8, g8, Nat.zero_le _, hid rfl, rfl, rfl, hid (by rw [show J 0 = [] by rw [HJ.out]; rfl, List.append_nil]; exact HO9.out), HD9, HN9, hid ⟨HG9.out, HH9.out, HK9.out⟩, HB9⟩
  case round =>
    obtain ⟨k, l, cap, g, hk, hl, rfl, rfl, hO, hD, hN, hG, hB⟩ := hrel
    have hx := hG.out.1.box.1
    have hy := hG.out.1.box.2
    have hlx := hG.out.1.lt
    have hu := hG.out.2.1.box.1
    have ht := hG.out.2.1.box.2
    have hlu := hG.out.2.1.lt
    by_cases hlt : k < 3
    · have hla := endsF_three G1.out Hv.out.1 Hv.out.2
      have hlb := endsF_three G2.out Hx.out.1 Hx.out.2
      have hpa := endsF_in G1.out (show eI (endsF es v) k ∈ endsF es v by rw [eI_lt (by omega)]; exact List.getElem_mem _)
      have hpb := endsF_in G2.out (show eI (endsF fs x) k ∈ endsF fs x by rw [eI_lt (by omega)]; exact List.getElem_mem _)
      obtain ⟨X, hX⟩ : ∃ X : Nat, eI (endsF es v) k = X := ⟨_, (Int.toNat_of_nonneg hpa.1).symm⟩
      obtain ⟨Y, hY⟩ : ∃ Y : Nat, eI (endsF fs x) k = Y := ⟨_, (Int.toNat_of_nonneg hpb.1).symm⟩
      have hca := hN.out.2.2.1.reads k (by omega)
      have hcb := hN.out.2.2.2.reads k (by omega)
      have hst0 := HS0.out
      have htt0 := HT0.out
      rw [hX] at hpa hca
      rw [hY] at hpb hcb
      have hXl : X < N := by omega
      have hYl : Y < M := by omega
      have hda := hN.out.1.reads X (by rw [nmL_len]; exact hXl)
      have hdb := hN.out.2.1.reads Y (by rw [nmL_len]; exact hYl)
      rw [nmL_at hXl, nwF_no (by rw [List.mem_singleton]; exact hpa.2.2)] at hda
      rw [nmL_at hYl, nwF_no (by rw [List.mem_singleton]; exact hpb.2.2)] at hdb
      rw [Nat.zero_add] at hca hcb hda hdb
      obtain ⟨a1, ha1⟩ : ∃ a1, (0 : Int) + numW X [v] [v].length = a1 := ⟨_, rfl⟩
      obtain ⟨d1, hd1⟩ : ∃ d1, s - 1 + numW Y [x] [x].length = d1 := ⟨_, rfl⟩
      rw [ha1] at hda
      rw [hd1] at hdb
      have HJs := hid (show J (k + 1) = J k ++ [(a1, d1)] by
        rw [HJ.out]
        show jnU s es v fs x (k + 1) = jnU s es v fs x k ++ [(a1, d1)]
        rw [jnU_succ, hX, hY, ← ha1, ← hd1, Int.zero_add]
        rfl)
      have hXl' : (X : Int) < (N : Int) := by omega
      have hYl' : (Y : Int) < (M : Int) := by omega
      have hk3 : (k : Int) < 3 := by omega
      have hn1 := hN.out.1.lt
      have hn2 := hN.out.2.1.lt
      have hna := hN.out.2.2.1.lt
      have hnb := hN.out.2.2.2.lt
      have hll : l ≤ 60 := by have ar := HAr.out; have h1 := HLL1.out; have h2 := HLL2.out; have := hl.out; omega
      obtain ⟨wo, rfl⟩ : ∃ wo : World, wo = wr := ⟨_, rfl⟩
      have hszg : w5.heap.size + 1 ≤ wo.heap.size := by have h := hO.out.lt g rfl; omega
      clear hla hlb hpa hpb hX hY hst0 htt0 ha1 hd1 hXl hYl
      go_wp2_with fail
      go_region_held3 (fun w' => w'.cell? ⟨ga, k, none⟩ = some (.int .i64 (X : Int)) ∧ w'.cell? ⟨gb, k, none⟩ = some (.int .i64 (Y : Int)) ∧ w'.cell? ⟨gN1, X, none⟩ = some (.int .i64 a1) ∧ w'.cell? ⟨gN2, Y, none⟩ = some (.int .i64 d1)) (first | go_keep | exact ⟨hca7, hcb7, hda7, hdb7⟩) ((refine step_append_wantedX (by rfl) (.tmp 90) (.tmp 106) 22 (by rfl) (w5.heap.size + 1) 85 i0 (.agg #[.int .i64 0, .int .i64 0]) 2 16 Try.underlying22 Hi.out hz0 hz1 hz2 rfl (by decide) (.slice (some ⟨g, 0, none⟩) l cap) l _ (by rfl) (show (wo.alloc _).ownsRow _ _ _ _ _ _ from World.ownsRow.alloc hO.out _) ⟨wo.heap.size, 0, none⟩ 1 1 [.int .i64 a1, .int .i64 d1] (by rfl) rfl (World.news_of_block (cs := #[.int .i64 a1, .int .i64 d1]) (t := 85) (fr := (0, 0)) (heap_alloc_new _ _)) (by simp [Value.oneCell']) (by decide) (by unfold maxLen; omega) (by omega) (by simp only [drew_size, World.size_alloc]; omega) ?_; intro g7 cap7 w7' hown7 hgr7 hlie7 hgl7; obtain ⟨hca7, hcb7, hda7, hdb7, HD7, HN7', HG7', HB7'⟩ := star_facts hD.out hN.out hG.out hB.out hca hcb hda hdb (by omega) hszg hgr7 hlie7; have Hown := hid hown7; clear hown7 hgr7 hlie7))
      go_wp2
      go_roundw
      case rel => exact ⟨k + 1, l + 1, cap7, g7, by omega, hid (by have := hl.out; omega), rfl, by go_num, hid (by rw [HJs.out, ← List.append_assoc, edgeVals_append]; exact Hown.out), HD7, HN7', HG7', HB7'⟩
      case measure => simp [intOf]; omega
    · obtain rfl : k = 3 := by omega
      go_wp2_with fail
      have hT : starM s es v fs x = A ++ J 3 := by rw [HS.out, HA.out, HJ.out]
      have hlA : A.length = L1 + L2 := by rw [← HA.out, List.length_append, HLL1.out, HLL2.out]
      have hlJ : (J 3).length = 3 := by rw [HJ.out]; exact jnU_len s es v fs x 3
      have hlen : (A ++ J 3).length = l := by rw [List.length_append, hlA, hlJ, hl.out]
      have HTl := hid (And.intro hT hlen)
      have hor := OwnE.of_row (es := A ++ J 3) hO.out hlen
      refine (sMade_any (s + t - 2) g 0 l cap (A ++ J 3) _ (by have ar := HAr.out; have h1 := HLL1.out; have h2 := HLL2.out; have := hl.out; omega) hlen hor.1.reads).mono ?_
      rintro e' w12 ⟨q, cq, rfl, hf12, hb12⟩
      have HB12 := hid (bfrom hB.out hb12)
      have HK12 := hid (hG.out.2.2.on hb12)
      have hszB := hB.out.size
      have HF12 := hid hf12
      have hkl := hG.out.2.2.lt
      clear hb12 hf12 hT hlen hor hlA hlJ
      have hxk := HK12.out.box.1
      have hyk := HK12.out.box.2
      have hfka := HK12.out.frozen 0
      have hfkb := HK12.out.frozen 1
      go_wp2_with fail
      rw [HTl.out.1, HTl.out.2]
      refine bodyPost_ret (v := .tuple #[.agg #[.int .i64 (s + t - 2), .slice q l cq], .int .i64 0]) (by simp [results, Try.results30, go_sem, hxk, hyk]) rfl ⟨q, cq, rfl, ?_, ?_⟩
      · exact (((HF12.out.less (B' := wr.heap.size) (Nat.le_refl _)).far (a := ⟨w.heap.size + 1 + 1, 0, none⟩) hkl _).far (a := ⟨w.heap.size + 1 + 1, 1, none⟩) hkl _).less hszB
      · have h := HB12.out
        go_grown

end Go.Proofs.Ytpadnliebimceaa
