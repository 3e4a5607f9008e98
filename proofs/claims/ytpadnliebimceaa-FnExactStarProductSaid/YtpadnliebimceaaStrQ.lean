/- StarProduct in the program: the product. -/
import Derived.Test.YtpadnliebimceaaStrA
import Derived.Test.YtpadnliebimceaaStrP
import Derived.Test.YtpadnliebimceaaFolB
import Derived.Test.YtpadnliebimceaaCatE
import Derived.Deep.RegionHeld3
namespace Go.Proofs.Ytpadnliebimceaa
open Go.RowKit Go.Lib

set_option maxRecDepth 100000 in
set_option maxHeartbeats 1000000 in
theorem iNoEdge_any (w : World) :
    Calls Try.prog 70 #[] w fun e w' => e = .returned (.agg #[.int .i64 0, .int .i64 0]) ∧ Below w.heap.size w w' := by
  go_enter Try.func70, Try.ntmps70
  go_wp2
  refine bodyPost_ret (v := .agg #[.int .i64 0, .int .i64 0]) (by simp [results, Try.results70, go_sem]) rfl ⟨rfl, ?_⟩
  go_grown

/-- The ends at a vertex of two graphs beside each other. -/
theorem iEndF_any (s v : Int) (b off n c : Nat) (es : List (Int × Int)) (L : List Int) (w : World) (hn100 : n ≤ 100) (hn : es.length = n) (hr : ReadsE w b off es) (hne : ∀ i, i < es.length → eA es i ≠ eB es i) (hL : endsF es v = L) (h3 : L.length = 3) :
    Calls Try.prog 69 #[.agg #[.int .i64 s, .slice (some ⟨b, off, none⟩) n c], .int .i64 v, .agg #[.int .i64 0, .int .i64 0]] w fun e w' => ∃ g cap, e = .returned (.slice (some ⟨g, 0, none⟩) 3 cap) ∧ w.heap.size ≤ g ∧ OwnI w' g cap L ∧ Below w.heap.size w w' := by
  have hne0 : 0 < es.length := by
    rcases Nat.eq_zero_or_pos es.length with h | h
    · have : es = [] := List.length_eq_zero_iff.1 h
      subst this
      subst hL
      simp [endsF, onL] at h3
    · exact h
  have h := iEndA_any s v 0 0 b off n c es w hn100 hn hr (reads_lt hr hne0)
  rw [endL_none hne, hL, h3] at h
  refine h.mono ?_
  rintro e w' ⟨q, cap, rfl, hf, hb⟩
  rcases hf.form with ⟨_, h0, _⟩ | ⟨g, rfl, hg, ho⟩
  · omega
  · exact ⟨g, cap, rfl, hg, ho, hb⟩

theorem holds_two {w : World} {ba g4 c4 gp cp k : Nat} {X Y : List (Int × Int)} {t : TypeId} (hb : w.heap[ba]? = some (.cells #[.slice (some ⟨g4, 0, none⟩) k c4, .slice (some ⟨gp, 0, none⟩) 3 cp] t (0, 0))) (h4 : OwnE w g4 c4 X) (hp : OwnE w gp cp Y) (l4 : X.length = k) (lp : Y.length = 3) (hk : 0 < k) : HoldsE w ba [X, Y] := fun i hi => by
  have hbl : ba < w.heap.size := (Array.getElem?_eq_some_iff.1 hb).1
  rcases (by simp at hi; omega : i = 0 ∨ i = 1) with rfl | rfl
  · exact ⟨g4, 0, c4, by rw [cell_of_row w ba 0 _ _ _ hb]; show some (Value.slice (some ⟨g4, 0, none⟩) k c4) = some (Value.slice (some ⟨g4, 0, none⟩) X.length c4); rw [l4], h4.reads, by show 0 < X.length; omega, hbl, h4.lt⟩
  · exact ⟨gp, 0, cp, by rw [cell_of_row w ba 1 _ _ _ hb]; show some (Value.slice (some ⟨gp, 0, none⟩) 3 cp) = some (Value.slice (some ⟨gp, 0, none⟩) Y.length cp); rw [lp], hp.reads, by show 0 < Y.length; omega, hbl, hp.lt⟩
theorem reads_twoC (w : World) (v y : Int) (t : TypeId) (g : Nat) (hg : g = w.heap.size) : ReadsI (w.alloc (.cells #[.int .i64 v, .int .i64 y] t)) g 0 [v, y] := fun i hi => by
  subst hg
  rcases (by simp at hi; omega : i = 0 ∨ i = 1) with rfl | rfl <;> simp [eI]
theorem reads_on76 {w w' : World} {v y : Int} {O : Obj} (hb : Below ((w.alloc (.cells #[.int .i64 v, .int .i64 y] 2)).alloc O).drew.heap.size ((w.alloc (.cells #[.int .i64 v, .int .i64 y] 2)).alloc O).drew w') : ReadsI w' w.heap.size 0 [v, y] :=
  ReadsI.on (w := ((w.alloc (.cells #[.int .i64 v, .int .i64 y] 2)).alloc O).drew) (show ReadsI ((w.alloc (.cells #[.int .i64 v, .int .i64 y] 2)).alloc O) w.heap.size 0 [v, y] from (reads_twoC w v y _ _ rfl).on (on_alloc _ _)) hb
theorem reads_on76b {w w' : World} {v y : Int} {O : Obj} (hb : Below ((w.alloc (.cells #[.int .i64 v, .int .i64 y] 2)).alloc O).heap.size ((w.alloc (.cells #[.int .i64 v, .int .i64 y] 2)).alloc O) w') : ReadsI w' w.heap.size 0 [v, y] :=
  ReadsI.on ((reads_twoC w v y _ _ rfl).on (on_alloc _ _)) hb
theorem reads_on67 {w w' : World} {v y : Int} {O : Obj} (hb : Below ((w.alloc O).alloc (.cells #[.int .i64 v, .int .i64 y] 2)).drew.heap.size ((w.alloc O).alloc (.cells #[.int .i64 v, .int .i64 y] 2)).drew w') : ReadsI w' (w.heap.size + 1) 0 [v, y] :=
  ReadsI.on (w := ((w.alloc O).alloc (.cells #[.int .i64 v, .int .i64 y] 2)).drew) (show ReadsI ((w.alloc O).alloc (.cells #[.int .i64 v, .int .i64 y] 2)) (w.heap.size + 1) 0 [v, y] from reads_twoC (w.alloc O) v y _ _ (by simp)) hb
theorem reads_on67b {w w' : World} {v y : Int} {O : Obj} (hb : Below ((w.alloc O).alloc (.cells #[.int .i64 v, .int .i64 y] 2)).heap.size ((w.alloc O).alloc (.cells #[.int .i64 v, .int .i64 y] 2)) w') : ReadsI w' (w.heap.size + 1) 0 [v, y] :=
  ReadsI.on (reads_twoC (w.alloc O) v y _ _ (by simp)) hb
theorem starP_in {s t : Int} {es fs : List (Int × Int)} (g1 : IsG s es) (g2 : IsG t fs) {v x : Int} (hv : 0 ≤ v ∧ v < s) (hx : 0 ≤ x ∧ x < t) (_ : 0 ≤ s) {i : Nat} (hi : i < es.length + fs.length + 3) :
    (0 ≤ eA (starP s es v fs x) i ∧ eA (starP s es v fs x) i ≤ 1000) ∧ (0 ≤ eB (starP s es v fs x) i ∧ eB (starP s es v fs x) i ≤ 1000) := by
  have hs := g1.1.1
  have ht := g2.1.1
  unfold okSize at hs ht
  have hu : (es ++ upE s fs).length = es.length + fs.length := by rw [List.length_append, upE_length]
  unfold starP
  by_cases h1 : i < es.length + fs.length
  · have e := (eAB_append (es ++ upE s fs) (pairL (endsF es v) ((endsF fs x).map (s + ·)) 3) i).1 (by omega)
    rw [e.1, e.2]
    by_cases h2 : i < es.length
    · have e := (eAB_append es (upE s fs) i).1 h2
      rw [e.1, e.2]
      have := isG_pos g1 h2
      omega
    · have e := (eAB_append es (upE s fs) i).2 (by omega)
      have e2 := upE_at (s := s) (es := fs) (k := i - es.length) (by omega)
      have := isG_pos g2 (i := i - es.length) (by omega)
      rw [e.1, e.2, e2.1, e2.2]
      omega
  · have e := (eAB_append (es ++ upE s fs) (pairL (endsF es v) ((endsF fs x).map (s + ·)) 3) i).2 (by omega)
    rw [e.1, e.2]
    have l1 := endsF_three g1 hv.1 hv.2
    have l2 := endsF_three g2 hx.1 hx.2
    obtain ⟨j, hj⟩ : ∃ j, i - (es ++ upE s fs).length = j := ⟨_, rfl⟩
    have hj3 : j < 3 := by omega
    rw [hj]
    have hp := pairL_at (xs := endsF es v) (ys := (endsF fs x).map (s + ·)) hj3
    have a1 := endsF_in g1 (show eI (endsF es v) j ∈ endsF es v by rw [eI_lt (by omega)]; exact List.getElem_mem _)
    have a2 := endsF_in g2 (show eI (endsF fs x) j ∈ endsF fs x by rw [eI_lt (by omega)]; exact List.getElem_mem _)
    have a3 : eI ((endsF fs x).map (s + ·)) j = s + eI (endsF fs x) j := by rw [eI_lt (by rw [List.length_map]; omega), eI_lt (by omega), List.getElem_map]
    unfold eA eB
    rw [List.getD_eq_getElem?_getD, hp]
    show (0 ≤ eI (endsF es v) j ∧ eI (endsF es v) j ≤ 1000) ∧ (0 ≤ eI ((endsF fs x).map (s + ·)) j ∧ eI ((endsF fs x).map (s + ·)) j ≤ 1000)
    rw [a3]
    omega

set_option maxRecDepth 100000 in
set_option maxHeartbeats 16000000 in
theorem iSp_yes (b off n c b2 o2 m d : Nat) (s t v x : Int) (es fs : List (Int × Int)) (w : World) (hn : es.length = n) (hr : ReadsE w b off es) (hn2 : fs.length = m) (hr2 : ReadsE w b2 o2 fs) (g1 : IsG s es) (g2 : IsG t fs) (hv : 0 ≤ v ∧ v < s) (hx : 0 ≤ x ∧ x < t) (hs4 : 4 ≤ s) (ht4 : 4 ≤ t) (hst : s + t ≤ 22) :
    Calls Try.prog 31 #[.agg #[.int .i64 s, .slice (some ⟨b, off, none⟩) n c], .int .i64 v, .agg #[.int .i64 t, .slice (some ⟨b2, o2, none⟩) m d], .int .i64 x] w fun e' w' => ∃ q cap, e' = .returned (.tuple #[.agg #[.int .i64 (s + t - 2), .slice q (starM s es v fs x).length cap], .int .i64 0]) ∧ FreshE w.heap.size w' q (starM s es v fs x).length cap (sortE (starM s es v fs x)) ∧ Below w.heap.size w w' := by
  have hn30 : n ≤ 30 := by have := isG_len g1; omega
  have hm30 : m ≤ 30 := by have := isG_len g2; omega
  have hn6 : 6 ≤ n := by have := g1.1.1; unfold okSize at this; omega
  have hE2 : EndsIn 100 fs := fun i hi => by have := isG_pos g2 hi; omega
  have Hne := hid (show ∀ i, i < (es ++ upE s fs).length → eA (es ++ upE s fs) i ≠ eB (es ++ upE s fs) i from fun i hi => by
    rw [List.length_append, upE_length] at hi
    by_cases h : i < es.length
    · have e := (eAB_append es (upE s fs) i).1 h
      rw [e.1, e.2]
      exact (isG_pos g1 h).2.2.2.2
    · have e := (eAB_append es (upE s fs) i).2 (by omega)
      have e2 := upE_at (s := s) (es := fs) (k := i - es.length) (by omega)
      have := isG_pos g2 (i := i - es.length) (by omega)
      rw [e.1, e.2, e2.1, e2.2]
      omega)
  have HL1 := hid (endsF_beside g1 g2 hv hx).1
  have HL2 := hid (endsF_beside g1 g2 hv hx).2
  have H31 := hid (endsF_three g1 hv.1 hv.2)
  have H32 := hid (show ((endsF fs x).map (s + ·)).length = 3 by rw [List.length_map]; exact endsF_three g2 hx.1 hx.2)
  have HSM := hid (star_same g1 g2 hv hx)
  have HSl := hid (show (starP s es v fs x).length = n + m + 3 by rw [starP_len, hn, hn2])
  have HSe := hid (show ∀ i, i < n + m + 3 → (0 ≤ eA (starP s es v fs x) i ∧ eA (starP s es v fs x) i ≤ 1000) ∧ (0 ≤ eB (starP s es v fs x) i ∧ eB (starP s es v fs x) i ≤ 1000) from fun i hi => by
    rw [← hn, ← hn2] at hi
    exact starP_in g1 g2 hv hx (by have := g1.1.1; unfold okSize at this; omega) hi)
  have HS1 := hid (show 1 ≤ (starM s es v fs x).length by unfold starM; rw [List.length_append, List.length_map, List.length_range]; omega)
  have HPl := hid (show starP s es v fs x = (es ++ upE s fs) ++ pairL (endsF es v) ((endsF fs x).map (s + ·)) 3 from rfl)
  have Hn := hid hn
  have Hn2 := hid hn2
  have Hr1 := hid hr
  have Hr2' := hid hr2
  have Hr : Hid (SeesE w (some ⟨b, off, none⟩) es) := hid (.inr ⟨b, off, rfl, hr⟩)
  have Hr2 : Hid (SeesE w (some ⟨b2, o2, none⟩) fs) := hid (.inr ⟨b2, o2, rfl, hr2⟩)
  have G1 := hid g1
  have G2 := hid g2
  have Hv := hid hv
  have Hx := hid hx
  have EI2 := hid hE2
  have h1 : (s == 2) = false := by rw [beq_eq_false_iff_ne]; omega
  have h2 : (t == 2) = false := by rw [beq_eq_false_iff_ne]; omega
  have h3 : decide (20 < s + t - 2) = false := decide_eq_false (by omega)
  have e1 : IntKind.i64.wrap (s + t) = s + t := IntWalk.i64_in _ (by omega)
  have e2 : IntKind.i64.wrap (s + t - 2) = s + t - 2 := IntWalk.i64_in _ (by omega)
  have e3 : IntKind.i64.wrap (x + s) = s + x := by rw [IntWalk.i64_in _ (by omega)]; omega
  have HAr := hid (show 4 ≤ s ∧ 4 ≤ t ∧ s + t ≤ 22 ∧ n ≤ 30 ∧ m ≤ 30 ∧ 6 ≤ n ∧ 0 ≤ v ∧ v < s ∧ 0 ≤ x ∧ x < t from ⟨hs4, ht4, hst, hn30, hm30, hn6, hv.1, hv.2, hx.1, hx.2⟩)
  clear hn hr hn2 hr2 g1 g2 hv hx hs4 ht4 hst hn30 hm30 hn6 hE2
  go_enter Try.func31, Try.ntmps31
  go_wp2_with fail
  refine (iIsGraph_any _ _ _ _ es _ (by have ar := HAr.out; omega) Hn.out (Hr.out.on (bfrom (bfrom (on_alloc _ _) (on_alloc _ _)) (on_alloc _ _)))).mono ?_
  rw [decide_eq_true G1.out]
  rintro e' w2 ⟨rfl, hb2⟩
  have HB2 := hid (bfrom (w := w) (bfrom (bfrom (on_alloc _ _) (on_alloc _ _)) (on_alloc _ _)) hb2)
  have HG2 := hid ((((GBox.new w w.heap.size rfl : GBox _ _ s (some ⟨b, off, none⟩) n c).on (on_alloc _ _)).on (on_alloc _ _)).on hb2)
  have HH2 := hid (((GBox.new _ (w.heap.size + 1) (by simp) : GBox _ _ t (some ⟨b2, o2, none⟩) m d).on (on_alloc _ _)).on hb2)
  have HK2 := hid ((GBox.new _ (w.heap.size + 1 + 1) (by simp) : GBox _ _ 0 none 0 0).on hb2)
  clear hb2
  have hu2 := HH2.out.box.1
  have ht2 := HH2.out.box.2
  have hm2 := HH2.out.lt
  go_wp2_with fail
  refine (iIsGraph_any _ _ _ _ fs _ (by have ar := HAr.out; omega) Hn2.out (Hr2.out.on HB2.out)).mono ?_
  rw [decide_eq_true G2.out]
  rintro e' w3 ⟨rfl, hb3⟩
  have HB3 := hid (bfrom HB2.out hb3)
  have HG3 := hid (HG2.out.on hb3)
  have HH3 := hid (HH2.out.on hb3)
  have HK3 := hid (HK2.out.on hb3)
  clear hb3 hu2 ht2 hm2 HG2 HH2 HK2 HB2
  have hx3 := HG3.out.box.1
  have hy3 := HG3.out.box.2
  have hl3 := HG3.out.lt
  have hu3 := HH3.out.box.1
  have ht3 := HH3.out.box.2
  have hm3 := HH3.out.lt
  go_wp2_with fail
  refine (iBelow_yes _ _ _ Hv.out).mono ?_
  rintro e' w' ⟨rfl, rfl⟩
  go_wp2_with fail
  refine (iBelow_yes _ _ _ Hx.out).mono ?_
  rintro e' w' ⟨rfl, rfl⟩
  go_wp2_with fail
  refine (iFollowed_any s t b off n c b2 o2 m d es fs _ Hn.out Hn2.out (by have ar := HAr.out; omega) (by have ar := HAr.out; omega) (by have ar := HAr.out; omega) (Hr1.out.on HB3.out) (Hr2'.out.on HB3.out) (by have ar := HAr.out; omega) (by have ar := HAr.out; omega) EI2.out).mono ?_
  rintro e' w4 ⟨g4, cap4, rfl, hg4, ho4, hb4⟩
  have HB4 := hid (bfrom HB3.out hb4)
  have HG4 := hid (HG3.out.on hb4)
  have HK4 := hid (HK3.out.on hb4)
  have HO4 := hid ho4
  clear hb4 ho4 hx3 hy3 hl3 hu3 ht3 hm3 HG3 HH3 HK3 HB3
  have hx4 := HG4.out.box.1
  have hy4 := HG4.out.box.2
  have hl4 := HG4.out.lt
  go_upto_region 11 with fail
  obtain ⟨W5, hW5⟩ : ∃ W5, W5 = w4.alloc (.cells #[.int .i64 (s + t), .slice (some ⟨g4, 0, none⟩) (n + m) cap4] 24) := ⟨_, rfl⟩
  obtain ⟨B, hB⟩ : ∃ B, B = w4.heap.size := ⟨_, rfl⟩
  have hM5 : GBox W5 B (s + t) (some ⟨g4, 0, none⟩) (n + m) cap4 := by rw [hW5]; exact GBox.new w4 B hB
  have HO5 : Hid (OwnE W5 g4 cap4 (es ++ upE s fs)) := hid (by rw [hW5]; exact HO4.out.alloc _)
  have HB5 : Hid (Below w.heap.size w W5) := hid (by rw [hW5]; exact bfrom HB4.out (on_alloc _ _))
  have HG5 : Hid (GBox W5 w.heap.size s (some ⟨b, off, none⟩) n c) := hid (by rw [hW5]; exact HG4.out.on (on_alloc _ _))
  have HK5 : Hid (GBox W5 (w.heap.size + 1 + 1) 0 none 0 0) := hid (by rw [hW5]; exact HK4.out.on (on_alloc _ _))
  have hBk : w.heap.size + 1 + 1 < B := by rw [hB]; exact HK4.out.lt
  have hBl : B < W5.heap.size := hM5.lt
  have hxW := hM5.box.1
  have hyW := hM5.box.2
  have hxc := hM5.box.1
  have hyc := hM5.box.2
  have hBc : Below W5.heap.size W5 W5 := Below.refl _ _
  have hle : (es ++ upE s fs).length = n + m := by rw [List.length_append, upE_length, Hn.out, Hn2.out]
  have HLe := hid hle
  have HM5 := hid hM5
  rw [← hW5, ← hB]
  clear hW5 hB hM5 hle hx4 hy4 hl4 HO4 HB4 HG4 HK4
  go_cut [11] (fun u wx => ∃ gp cp, u = .slice (some ⟨gp, 0, none⟩) 3 cp ∧ Hid (OwnE wx gp cp (pairL (endsF es v) ((endsF fs x).map (s + ·)) 3)) ∧ Hid (W5.heap.size ≤ gp) ∧ Hid (Below W5.heap.size W5 wx))
  case first =>
    go_region_held3 (fun w' => w'.cell? ⟨B, 0, none⟩ = some (.int .i64 (s + t)) ∧ w'.cell? ⟨B, 1, none⟩ = some (.slice (some ⟨g4, 0, none⟩) (n + m) cap4)) (first | go_keep | exact ⟨hxc, hyc⟩) (first
      | (go_at_call 70; refine (iNoEdge_any _).mono ?_; rintro e' wN ⟨rfl, hbN⟩; have hBd : Below W5.heap.size W5 wN := (by first | exact bfrom hBc hbN | exact bfrom hBc.drew hbN); clear hBc hxc hyc; have hBc := hBd; clear hBd; have hxc := ((bcells hBc).1 _ 0 hBl).trans hxW; have hyc := ((bcells hBc).1 _ 1 hBl).trans hyW)
      | (go_at_call_of 69 (Value.int .i64 v); refine (iEndF_any (s + t) v g4 0 (n + m) cap4 (es ++ upE s fs) (endsF es v) _ (by have ar := HAr.out; omega) HLe.out ((HO5.out.on hBc).reads) Hne.out HL1.out H31.out).mono ?_; rintro e' wA ⟨ga, ca, rfl, hga, hoa, hbA⟩; have HOa := hid hoa; have hBd := bfrom hBc hbA; clear hBc hxc hyc hoa; have hBc := hBd; clear hBd; have hxc := ((bcells hBc).1 _ 0 hBl).trans hxW; have hyc := ((bcells hBc).1 _ 1 hBl).trans hyW)
      | (go_at_call_of 69 (Value.int .i64 (s + x)); refine (iEndF_any (s + t) (s + x) g4 0 (n + m) cap4 (es ++ upE s fs) ((endsF fs x).map (s + ·)) _ (by have ar := HAr.out; omega) HLe.out ((HO5.out.on hBc).reads) Hne.out HL2.out H32.out).mono ?_; rintro e' wB ⟨gb, cb, rfl, hgb, hob, hbB⟩; have HOb := hid hob; have HOa2 := hid ((HOa.out.on hbN).on hbB); have hBd := bfrom hBc hbB; clear hBc hxc hyc hob; have hBc := hBd; clear hBd; have hxc := ((bcells hBc).1 _ 0 hBl).trans hxW; have hyc := ((bcells hBc).1 _ 1 hBl).trans hyW)
      | (go_at_call 68; refine (iPaired_any ga 0 3 ca gb 0 3 cb (endsF es v) ((endsF fs x).map (s + ·)) _ H31.out (by omega) HOa2.out.reads H32.out (by omega) (by omega) HOb.out.reads).mono ?_; rintro e' wP ⟨gp, cp, rfl, hgp, hop, hbP⟩; have HOp := hid hop; have hszc := hBc.size; have hBd := bfrom hBc hbP; clear hBc hxc hyc hop; have hBc := hBd; clear hBd; have hxc := ((bcells hBc).1 _ 0 hBl).trans hxW; have hyc := ((bcells hBc).1 _ 1 hBl).trans hyW))
    all_goals
      go_wp2_with fail
      go_meet
      exact ⟨gp, cp, rfl, HOp, hid (by omega), hid hBc⟩
  case rest =>
  obtain ⟨gp, cp, rfl, hOp, hgp, hBw⟩ := hcut
  obtain ⟨w6, rfl⟩ : ∃ w6, w6 = wc := ⟨_, rfl⟩
  have HM6 := hid (HM5.out.on hBw.out)
  have HO6 := hid (HO5.out.on hBw.out)
  have HK6 := hid (HK5.out.on hBw.out)
  have HB6 := hid (bfrom HB5.out hBw.out)
  have hPl3 : (pairL (endsF es v) ((endsF fs x).map (s + ·)) 3).length = 3 := pairL_len _ _ _
  obtain ⟨PL, hPL⟩ : ∃ PL, pairL (endsF es v) ((endsF fs x).map (s + ·)) 3 = PL := ⟨_, rfl⟩
  rw [hPL] at hOp hPl3
  obtain ⟨SP, hSP⟩ : ∃ SP, starP s es v fs x = SP := ⟨_, rfl⟩
  obtain ⟨X4, hX4⟩ : ∃ X4, es ++ upE s fs = X4 := ⟨_, rfl⟩
  have HCat := hid (show catU [X4, PL] 2 = SP by rw [← hSP, HPl.out, ← hPL, ← hX4]; simp [catU])
  rw [hSP] at HSl HSe HSM
  rw [hX4] at HO6 HLe
  rw [HSl.out] at HSM
  have HPl3 := hid hPl3
  obtain ⟨L, hL⟩ : ∃ L, (starM s es v fs x).length = L := ⟨_, rfl⟩
  have HLo := hid (show (outU SP [v, s + x] (n + m + 3)).length = L by rw [HSM.out]; exact hL)
  have HL := hid hL
  rw [hL] at HS1
  have hxc := HM6.out.box.1
  have hyc := HM6.out.box.2
  have hBl6 := HM6.out.lt
  have hkl := HK6.out.lt
  have hka := HK6.out.box.1
  have hkb := HK6.out.box.2
  have hfa := HK6.out.frozen 0
  have hfb := HK6.out.frozen 1
  have hBc : Below w6.heap.size w6 w6 := Below.refl _ _
  clear hxW hyW hBl hPl3 hPL hSP hX4 hL HM5 HO5 HK5 HB5 HG5 hgp hBw
  go_upto_region 12 with fail
  go_region_held3 (fun w' => w'.cell? ⟨B, 0, none⟩ = some (.int .i64 (s + t)) ∧ w'.cell? ⟨B, 1, none⟩ = some (.slice (some ⟨g4, 0, none⟩) (n + m) cap4)) (first | (with_reducible exact ⟨hxc, hyc⟩) | (refine ⟨?_, ?_⟩ <;> (repeat (first | with_reducible exact hxc | with_reducible exact hyc | with_reducible refine kF_drew ?_ | with_reducible refine kF_alloc _ ?_ | with_reducible refine kF_far (by first | (simp; done) | (simp; omega)) ?_)))) (first
    | (go_at_call 72; refine (iConcatE_any _ 2 2 (n + m + 3) [X4, PL] _ rfl (by omega) (by rw [HCat.out]; exact HSl.out) (by omega) (by have ar := HAr.out; omega) (holds_two (k := n + m) (c4 := cap4) (cp := cp) (g4 := g4) (gp := gp) (by first | exact heap_alloc_newC _ _ _ (by simp) | exact (Below.heap_alloc _ _ _ (by simp)).trans (heap_alloc_newC _ _ _ (by simp))) (HO6.out.on (by go_grown)) (hOp.out.on (by go_grown)) HLe.out HPl3.out (by have ar := HAr.out; omega))).mono ?_; rintro e' wC ⟨gc, cc, rfl, hgc, hoc, hbC⟩; have hBd : Below w6.heap.size w6 wC := bfrom (by go_grown) hbC; (first | (have hr76 := reads_on76 (w := w6) (v := v) (y := s + x) (O := (.cells #[.slice (some ⟨g4, 0, none⟩) (n + m) cap4, .slice (some ⟨gp, 0, none⟩) 3 cp] 22)) hbC; have HR76 := hid hr76; clear hr76) | (have hr76 := reads_on76b (w := w6) (v := v) (y := s + x) (O := (.cells #[.slice (some ⟨g4, 0, none⟩) (n + m) cap4, .slice (some ⟨gp, 0, none⟩) 3 cp] 22)) hbC; have HR76 := hid hr76; clear hr76) | (have hr76 := reads_on67 (w := w6) (v := v) (y := s + x) (O := (.cells #[.slice (some ⟨g4, 0, none⟩) (n + m) cap4, .slice (some ⟨gp, 0, none⟩) 3 cp] 22)) hbC; have HR76 := hid hr76; clear hr76) | (have hr76 := reads_on67b (w := w6) (v := v) (y := s + x) (O := (.cells #[.slice (some ⟨g4, 0, none⟩) (n + m) cap4, .slice (some ⟨gp, 0, none⟩) 3 cp] 22)) hbC; have HR76 := hid hr76; clear hr76) | skip); rw [HCat.out] at hoc; have HOc := hid hoc; have hgl := hoc.lt; have hzC := hBd.size; clear hBc hxc hyc hoc; have hBc := hBd; clear hBd; have hxc := ((bcells hBc).1 _ 0 hBl6).trans HM6.out.box.1; have hyc := ((bcells hBc).1 _ 1 hBl6).trans HM6.out.box.2)
    | (go_at_call 71; refine (iWithout_any (s + t) gc 0 (n + m + 3) cc _ 0 2 2 L SP [v, s + x] _ HSl.out (by have ar := HAr.out; omega) ((HOc.out.on (by go_grown)).reads) (by first | exact hgl | (simp; omega)) rfl (by omega) (by first | exact HR76.out | exact reads_twoC _ _ _ _ _ rfl) (by have ar := HAr.out; omega) HSe.out HLo.out HS1.out).mono ?_; rintro e' wD ⟨gd, rfl, hgd, hod, hbD⟩; have hBd : Below w6.heap.size w6 wD := bfrom (by go_grown) hbD; have HOd := hid hod; clear hBc hxc hyc hod; have hBc := hBd; clear hBd; have hxc := ((bcells hBc).1 _ 0 hBl6).trans HM6.out.box.1; have hyc := ((bcells hBc).1 _ 1 hBl6).trans HM6.out.box.2; have hkc := ((bcells hBc).1 _ 0 hkl).trans hka; have hkd := ((bcells hBc).1 _ 1 hkl).trans hkb; have hfc := ((bcells hBc).2 _ 0 hkl).trans hfa; have hfd := ((bcells hBc).2 _ 1 hkl).trans hfb))
  all_goals
    have HBw := hid (bfrom HB6.out hBc)
    have hzw := HB6.out.size
    rw [HSM.out] at HOd
    go_wp2
    rw [HL.out]
    refine bodyPost_ret (v := .tuple #[.agg #[.int .i64 (s + t - 2), .slice (some ⟨gd, 0, none⟩) L L], .int .i64 0]) (by simp [results, Try.results31, go_sem, hkc, hkd]) rfl ⟨some ⟨gd, 0, none⟩, L, rfl, ?_, ?_⟩
    · have hge : w6.heap.size ≤ gd := by (try simp only [World.size_alloc] at hgd); omega
      have hne : gd ≠ w.heap.size + 1 + 1 := by omega
      exact FreshE.of_own (g := gd) ((HOd.out.far hne _).far hne _) (by rw [sortE_length]; exact HL.out) (by omega)
    · have h := HBw.out
      go_grown

end Go.Proofs.Ytpadnliebimceaa
