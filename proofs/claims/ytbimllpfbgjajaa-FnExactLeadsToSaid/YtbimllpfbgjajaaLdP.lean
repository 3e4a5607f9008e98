/- LeadsTo in the program. -/
import Derived.Test.YtbimllpfbgjajaaLdM
import Derived.Test.YtbimllpfbgjajaaRenC
namespace Go.Proofs.Ytbimllpfbgjajaa
open Go.RowKit

attribute [local go_sem] Oper.semAt_some

theorem fRen_yes {s : Int} {es : List (Int × Int)} {ps : List Int} (g : IsG s es) (e : eachF s ps) : fRenumberGraph s es ps = (s, sortE (renE ps es), 0) := by
  unfold fRenumberGraph; rw [if_pos g, if_pos e]
theorem fRen_no {s : Int} {es : List (Int × Int)} {ps : List Int} (g : IsG s es) (e : ¬ eachF s ps) : fRenumberGraph s es ps = (0, [], 2) := by
  unfold fRenumberGraph; rw [if_pos g, if_neg e]

set_option maxRecDepth 100000 in
set_option maxHeartbeats 8000000 in
theorem iLeads_one (s t : Int) (p p2 q : Option Addr) (n c n2 c2 m d : Nat) (es fs : List (Int × Int)) (ps : List Int) (w : World) (m1 : n ≤ 1048576) (h1 : es.length = n) (r1 : SeesE w p es) (_m2 : n2 ≤ 1048576) (h2 : fs.length = n2) (r2 : SeesE w p2 fs) (_m3 : m ≤ 1048576) (h3 : ps.length = m) (r3 : SeesI w q ps) (g : ¬ IsG s es) :
    Calls Try.prog 30 #[.agg #[.int .i64 s, .slice p n c], .agg #[.int .i64 t, .slice p2 n2 c2], .slice q m d] w fun e' w' => e' = .returned (.tuple #[.bool false, .int .i64 1]) ∧ Below w.heap.size w w' := by
  have H1 := hid h1
  have R1 := hid r1
  have H2 := hid h2
  have R2 := hid r2
  have H3 := hid h3
  have R3 := hid r3
  have G := hid g
  clear g
  clear h1 r1 h2 r2 h3 r3
  go_enter Try.func30, Try.ntmps30
  go_wp2_with fail
  have HX0 := hid (((Box.new w s p n c 30).on (on_alloc _ (.cells #[.int .i64 t, .slice p2 n2 c2] 30))))
  have HY0 := hid (show Box ((w.alloc (.cells #[.int .i64 s, .slice p n c] 30)).alloc (.cells #[.int .i64 t, .slice p2 n2 c2] 30)) (w.heap.size + 1) t p2 n2 c2 from by
    have h := Box.new (w.alloc (.cells #[.int .i64 s, .slice p n c] 30)) t p2 n2 c2 30
    simpa only [World.size_alloc] using h)
  have HB0 := hid (bfrom (on_alloc w (.cells #[.int .i64 s, .slice p n c] 30)) (on_alloc _ (.cells #[.int .i64 t, .slice p2 n2 c2] 30)))
  refine (iIsGraph_any _ _ _ _ es _ (by omega) H1.out (R1.out.on HB0.out)).mono ?_
  rw [decide_eq_false G.out]
  rintro e w2 ⟨rfl, hb2⟩
  have HX2 := hid (HX0.out.on hb2)
  have HY2 := hid (HY0.out.on hb2)
  have HB2 := hid (bfrom HB0.out hb2)
  clear hb2 HX0 HY0 HB0
  have hx1 := HX2.out.1
  have hx2 := HX2.out.2
  have hxz := HX2.out.lt
  have hy1 := HY2.out.1
  have hy2 := HY2.out.2
  have hyz := HY2.out.lt
  go_wp2
  go_ret2
  exact ⟨rfl, HB2.out⟩

set_option maxRecDepth 100000 in
set_option maxHeartbeats 8000000 in
theorem iLeads_two (s t : Int) (p p2 q : Option Addr) (n c n2 c2 m d : Nat) (es fs : List (Int × Int)) (ps : List Int) (w : World) (m1 : n ≤ 1048576) (h1 : es.length = n) (r1 : SeesE w p es) (m2 : n2 ≤ 1048576) (h2 : fs.length = n2) (r2 : SeesE w p2 fs) (_m3 : m ≤ 1048576) (h3 : ps.length = m) (r3 : SeesI w q ps) (g : IsG s es) (k : ¬ IsG t fs) :
    Calls Try.prog 30 #[.agg #[.int .i64 s, .slice p n c], .agg #[.int .i64 t, .slice p2 n2 c2], .slice q m d] w fun e' w' => e' = .returned (.tuple #[.bool false, .int .i64 1]) ∧ Below w.heap.size w w' := by
  have H1 := hid h1
  have R1 := hid r1
  have H2 := hid h2
  have R2 := hid r2
  have H3 := hid h3
  have R3 := hid r3
  have G := hid g
  have K := hid k
  clear g k
  clear h1 r1 h2 r2 h3 r3
  go_enter Try.func30, Try.ntmps30
  go_wp2_with fail
  have HX0 := hid (((Box.new w s p n c 30).on (on_alloc _ (.cells #[.int .i64 t, .slice p2 n2 c2] 30))))
  have HY0 := hid (show Box ((w.alloc (.cells #[.int .i64 s, .slice p n c] 30)).alloc (.cells #[.int .i64 t, .slice p2 n2 c2] 30)) (w.heap.size + 1) t p2 n2 c2 from by
    have h := Box.new (w.alloc (.cells #[.int .i64 s, .slice p n c] 30)) t p2 n2 c2 30
    simpa only [World.size_alloc] using h)
  have HB0 := hid (bfrom (on_alloc w (.cells #[.int .i64 s, .slice p n c] 30)) (on_alloc _ (.cells #[.int .i64 t, .slice p2 n2 c2] 30)))
  refine (iIsGraph_any _ _ _ _ es _ (by omega) H1.out (R1.out.on HB0.out)).mono ?_
  rw [decide_eq_true G.out]
  rintro e w2 ⟨rfl, hb2⟩
  have HX2 := hid (HX0.out.on hb2)
  have HY2 := hid (HY0.out.on hb2)
  have HB2 := hid (bfrom HB0.out hb2)
  clear hb2 HX0 HY0 HB0
  have hx1 := HX2.out.1
  have hx2 := HX2.out.2
  have hxz := HX2.out.lt
  have hy1 := HY2.out.1
  have hy2 := HY2.out.2
  have hyz := HY2.out.lt
  go_wp2_with fail
  refine (iIsGraph_any _ _ _ _ fs _ (by omega) H2.out (R2.out.on HB2.out)).mono ?_
  rw [decide_eq_false K.out]
  rintro e w3 ⟨rfl, hb3⟩
  have HX3 := hid (HX2.out.on hb3)
  have HY3 := hid (HY2.out.on hb3)
  have HB3 := hid (bfrom HB2.out hb3)
  clear hb3 HX2 HY2 HB2 hx1 hx2 hxz hy1 hy2 hyz
  have hx1 := HX3.out.1
  have hx2 := HX3.out.2
  have hxz := HX3.out.lt
  have hy1 := HY3.out.1
  have hy2 := HY3.out.2
  have hyz := HY3.out.lt
  go_wp2
  go_ret2
  exact ⟨rfl, HB3.out⟩

set_option maxRecDepth 100000 in
set_option maxHeartbeats 8000000 in
theorem iLeads_size (s t : Int) (p p2 q : Option Addr) (n c n2 c2 m d : Nat) (es fs : List (Int × Int)) (ps : List Int) (w : World) (m1 : n ≤ 1048576) (h1 : es.length = n) (r1 : SeesE w p es) (m2 : n2 ≤ 1048576) (h2 : fs.length = n2) (r2 : SeesE w p2 fs) (_m3 : m ≤ 1048576) (h3 : ps.length = m) (r3 : SeesI w q ps) (g : IsG s es) (k : IsG t fs) (l : s ≠ t) :
    Calls Try.prog 30 #[.agg #[.int .i64 s, .slice p n c], .agg #[.int .i64 t, .slice p2 n2 c2], .slice q m d] w fun e' w' => e' = .returned (.tuple #[.bool false, .int .i64 2]) ∧ Below w.heap.size w w' := by
  have H1 := hid h1
  have R1 := hid r1
  have H2 := hid h2
  have R2 := hid r2
  have H3 := hid h3
  have R3 := hid r3
  have G := hid g
  have K := hid k
  have q1 : (s != t) = true := by simpa using l
  clear g k l
  clear h1 r1 h2 r2 h3 r3
  go_enter Try.func30, Try.ntmps30
  go_wp2_with fail
  have HX0 := hid (((Box.new w s p n c 30).on (on_alloc _ (.cells #[.int .i64 t, .slice p2 n2 c2] 30))))
  have HY0 := hid (show Box ((w.alloc (.cells #[.int .i64 s, .slice p n c] 30)).alloc (.cells #[.int .i64 t, .slice p2 n2 c2] 30)) (w.heap.size + 1) t p2 n2 c2 from by
    have h := Box.new (w.alloc (.cells #[.int .i64 s, .slice p n c] 30)) t p2 n2 c2 30
    simpa only [World.size_alloc] using h)
  have HB0 := hid (bfrom (on_alloc w (.cells #[.int .i64 s, .slice p n c] 30)) (on_alloc _ (.cells #[.int .i64 t, .slice p2 n2 c2] 30)))
  refine (iIsGraph_any _ _ _ _ es _ (by omega) H1.out (R1.out.on HB0.out)).mono ?_
  rw [decide_eq_true G.out]
  rintro e w2 ⟨rfl, hb2⟩
  have HX2 := hid (HX0.out.on hb2)
  have HY2 := hid (HY0.out.on hb2)
  have HB2 := hid (bfrom HB0.out hb2)
  clear hb2 HX0 HY0 HB0
  have hx1 := HX2.out.1
  have hx2 := HX2.out.2
  have hxz := HX2.out.lt
  have hy1 := HY2.out.1
  have hy2 := HY2.out.2
  have hyz := HY2.out.lt
  go_wp2_with fail
  refine (iIsGraph_any _ _ _ _ fs _ (by omega) H2.out (R2.out.on HB2.out)).mono ?_
  rw [decide_eq_true K.out]
  rintro e w3 ⟨rfl, hb3⟩
  have HX3 := hid (HX2.out.on hb3)
  have HY3 := hid (HY2.out.on hb3)
  have HB3 := hid (bfrom HB2.out hb3)
  clear hb3 HX2 HY2 HB2 hx1 hx2 hxz hy1 hy2 hyz
  have hx1 := HX3.out.1
  have hx2 := HX3.out.2
  have hxz := HX3.out.lt
  have hy1 := HY3.out.1
  have hy2 := HY3.out.2
  have hyz := HY3.out.lt
  go_wp2
  go_ret2
  exact ⟨rfl, HB3.out⟩

set_option maxRecDepth 100000 in
set_option maxHeartbeats 8000000 in
theorem iLeads_yes (s t : Int) (p p2 q : Option Addr) (n c n2 c2 m d : Nat) (es fs : List (Int × Int)) (ps : List Int) (w : World) (m1 : n ≤ 1048576) (h1 : es.length = n) (r1 : SeesE w p es) (m2 : n2 ≤ 1048576) (h2 : fs.length = n2) (r2 : SeesE w p2 fs) (m3 : m ≤ 1048576) (h3 : ps.length = m) (r3 : SeesI w q ps) (g : IsG s es) (k : IsG t fs) (l : s = t) (u : Bool) (z : Int) (hz : (if eachF s ps then (decide (sortE (renE ps es) = fs), (0 : Int)) else (false, 2)) = (u, z)) :
    Calls Try.prog 30 #[.agg #[.int .i64 s, .slice p n c], .agg #[.int .i64 t, .slice p2 n2 c2], .slice q m d] w fun e' w' => e' = .returned (.tuple #[.bool u, .int .i64 z]) ∧ Below w.heap.size w w' := by
  have H1 := hid h1
  have R1 := hid r1
  have H2 := hid h2
  have R2 := hid r2
  have H3 := hid h3
  have R3 := hid r3
  have G := hid g
  have K := hid k
  have q1 : (s != t) = false := by simpa using l
  have hes : (sortE (renE ps es)).length = n2 := by
    rw [sortE_length, renE_length]
    have a := g.1.1.2.2.2
    have b := k.1.1.2.2.2
    omega
  have HES := hid hes
  have HZ := hid hz
  clear h1 r1 h2 r2 h3 r3 g k l hes hz
  go_enter Try.func30, Try.ntmps30
  go_wp2_with fail
  have HX0 := hid (((Box.new w s p n c 30).on (on_alloc _ (.cells #[.int .i64 t, .slice p2 n2 c2] 30))))
  have HY0 := hid (show Box ((w.alloc (.cells #[.int .i64 s, .slice p n c] 30)).alloc (.cells #[.int .i64 t, .slice p2 n2 c2] 30)) (w.heap.size + 1) t p2 n2 c2 from by
    have h := Box.new (w.alloc (.cells #[.int .i64 s, .slice p n c] 30)) t p2 n2 c2 30
    simpa only [World.size_alloc] using h)
  have HB0 := hid (bfrom (on_alloc w (.cells #[.int .i64 s, .slice p n c] 30)) (on_alloc _ (.cells #[.int .i64 t, .slice p2 n2 c2] 30)))
  refine (iIsGraph_any _ _ _ _ es _ (by omega) H1.out (R1.out.on HB0.out)).mono ?_
  rw [decide_eq_true G.out]
  rintro e w2 ⟨rfl, hb2⟩
  have HX2 := hid (HX0.out.on hb2)
  have HY2 := hid (HY0.out.on hb2)
  have HB2 := hid (bfrom HB0.out hb2)
  clear hb2 HX0 HY0 HB0
  have hx1 := HX2.out.1
  have hx2 := HX2.out.2
  have hxz := HX2.out.lt
  have hy1 := HY2.out.1
  have hy2 := HY2.out.2
  have hyz := HY2.out.lt
  go_wp2_with fail
  refine (iIsGraph_any _ _ _ _ fs _ (by omega) H2.out (R2.out.on HB2.out)).mono ?_
  rw [decide_eq_true K.out]
  rintro e w3 ⟨rfl, hb3⟩
  have HX3 := hid (HX2.out.on hb3)
  have HY3 := hid (HY2.out.on hb3)
  have HB3 := hid (bfrom HB2.out hb3)
  clear hb3 HX2 HY2 HB2 hx1 hx2 hxz hy1 hy2 hyz
  have hx1 := HX3.out.1
  have hx2 := HX3.out.2
  have hxz := HX3.out.lt
  have hy1 := HY3.out.1
  have hy2 := HY3.out.2
  have hyz := HY3.out.lt
  go_wp2_with fail
  refine (iRenumberGraph_any _ _ _ _ es _ _ _ ps _ m1 H1.out (R1.out.on HB3.out) m3 H3.out (R3.out.on HB3.out)).mono ?_
  by_cases he : eachF s ps
  · rw [fRen_yes G.out he]
    have hz := HZ.out
    rw [if_pos he] at hz
    dsimp only
    rw [HES.out]
    rintro e w4 ⟨q4, c4, rfl, hf4, hb4⟩
    have HF4 := hid hf4
    have hu := congrArg Prod.fst hz
    have hv := congrArg Prod.snd hz
    dsimp only at hu hv
    subst hv
    have HU := hid hu
    have HX4 := hid (HX3.out.on hb4)
    have HY4 := hid (HY3.out.on hb4)
    have HB4 := hid (bfrom HB3.out hb4)
    clear hb4 HX3 HY3 HB3 hx1 hx2 hxz hy1 hy2 hyz hf4 hz hu
    have hy1 := HY4.out.1
    have hy2 := HY4.out.2
    have hyz := HY4.out.lt
    obtain ⟨b2, o2, rfl, rd2⟩ := isG_sees K.out R2.out
    have RD2 := hid rd2
    have hn0 : 0 < n2 := by have := K.out.1.1.2.2.2; have := K.out.1.1.1; have := H2.out; omega
    obtain ⟨g4, o4, rfl, rd4⟩ : ∃ g4 o4, q4 = some ⟨g4, o4, none⟩ ∧ ReadsE w4 g4 o4 (sortE (renE ps es)) := by
      rcases HF4.out.sees with h0 | h0
      · rw [← List.length_eq_zero_iff, HES.out] at h0; omega
      · exact h0
    have RD4 := hid rd4
    clear rd2 rd4
    go_wp2_with fail
    refine (equalE_cells g4 o4 b2 o2 n2 c4 c2 (sortE (renE ps es)) fs _ HES.out H2.out (by omega) (RD4.out.on (by have := Below.refl w4.heap.size w4; go_grown)) ((RD2.out.on HB4.out).on (by have := Below.refl w4.heap.size w4; go_grown))).mono ?_
    rw [show (sortE (renE ps es) == fs) = decide (sortE (renE ps es) = fs) from by by_cases h : sortE (renE ps es) = fs <;> simp [h], HU.out]
    rintro e w5 ⟨rfl, hb5⟩
    have HB5 := hid (bfrom (bfrom HB4.out (by have := Below.refl w4.heap.size w4; go_grown)) hb5)
    clear hb5
    go_wp2
    go_ret2
    exact ⟨rfl, HB5.out⟩
  · rw [fRen_no G.out he]
    have hz := HZ.out
    rw [if_neg he] at hz
    dsimp only
    rintro e w4 ⟨q4, c4, rfl, hf4, hb4⟩
    have hu := congrArg Prod.fst hz
    have hv := congrArg Prod.snd hz
    dsimp only at hu hv
    subst hu
    subst hv
    have HB4 := hid (bfrom HB3.out hb4)
    clear hb4 hf4 hz
    go_wp2
    go_ret2
    exact ⟨rfl, by have := HB4.out; have := HB4.out.size; go_grown⟩

theorem iLeadsTo_any (s : Int) (p : Option Addr) (n c : Nat) (es : List (Int × Int)) (t : Int) (p2 : Option Addr) (n2 c2 : Nat) (fs : List (Int × Int)) (q : Option Addr) (m d : Nat) (ps : List Int) (w : World) (m1 : n ≤ 1048576) (h1 : es.length = n) (r1 : SeesE w p es) (m2 : n2 ≤ 1048576) (h2 : fs.length = n2) (r2 : SeesE w p2 fs) (m3 : m ≤ 1048576) (h3 : ps.length = m) (r3 : SeesI w q ps) :
    Calls Try.prog 30 #[.agg #[.int .i64 s, .slice p n c], .agg #[.int .i64 t, .slice p2 n2 c2], .slice q m d] w fun e' w' => e' = .returned (.tuple #[.bool (fLeadsTo s es t fs ps).1, .int .i64 (fLeadsTo s es t fs ps).2]) ∧ Below w.heap.size w w' := by
  unfold fLeadsTo
  by_cases g : IsG s es
  · by_cases k : IsG t fs
    · rw [if_pos ⟨g, k⟩]
      by_cases l : s = t
      · by_cases e : eachF s ps
        · rw [if_pos ⟨l, e⟩]
          exact iLeads_yes s t p p2 q n c n2 c2 m d es fs ps w m1 h1 r1 m2 h2 r2 m3 h3 r3 g k l _ _ (if_pos e)
        · rw [if_neg (fun h => e h.2)]
          exact iLeads_yes s t p p2 q n c n2 c2 m d es fs ps w m1 h1 r1 m2 h2 r2 m3 h3 r3 g k l _ _ (if_neg e)
      · rw [if_neg (fun h => l h.1)]
        exact iLeads_size s t p p2 q n c n2 c2 m d es fs ps w m1 h1 r1 m2 h2 r2 m3 h3 r3 g k l
    · rw [if_neg (fun h => k h.2)]
      exact iLeads_two s t p p2 q n c n2 c2 m d es fs ps w m1 h1 r1 m2 h2 r2 m3 h3 r3 g k
  · rw [if_neg (fun h => g h.1)]
    exact iLeads_one s t p p2 q n c n2 c2 m d es fs ps w m1 h1 r1 m2 h2 r2 m3 h3 r3 g

end Go.Proofs.Ytbimllpfbgjajaa
