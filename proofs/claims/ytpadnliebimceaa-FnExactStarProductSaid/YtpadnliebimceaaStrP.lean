/- StarProduct in the program: the errors. -/
import Derived.Test.YtpadnliebimceaaImplG
import Derived.Test.YtpadnliebimceaaLawsD
namespace Go.Proofs.Ytpadnliebimceaa
open Go.RowKit Go.Lib

set_option maxRecDepth 100000 in
set_option maxHeartbeats 4000000 in
theorem iSp_g (s v : Int) (p : Option Addr) (n c : Nat) (es : List (Int × Int)) (t x : Int) (q : Option Addr) (m d : Nat) (fs : List (Int × Int)) (w : World) (hm : n ≤ 1048576) (hn : es.length = n) (hr : SeesE w p es) (_ : m ≤ 1048576) (hn2 : fs.length = m) (hr2 : SeesE w q fs) (g1 : ¬ IsG s es) :
    Calls Try.prog 31 #[.agg #[.int .i64 s, .slice p n c], .int .i64 v, .agg #[.int .i64 t, .slice q m d], .int .i64 x] w fun e' w' => e' = .returned (.tuple #[.agg #[.int .i64 0, .slice none 0 0], .int .i64 1]) ∧ Below w.heap.size w w' := by
  have Hn := hid hn
  have Hr := hid hr
  have Hn2 := hid hn2
  have Hr2 := hid hr2
  clear hn hr hn2 hr2
  have G1 := hid g1
  clear g1
  go_enter Try.func31, Try.ntmps31
  go_wp2_with fail
  refine (iIsGraph_any _ _ _ _ es _ (by omega) Hn.out (Hr.out.on (bfrom (bfrom (on_alloc _ _) (on_alloc _ _)) (on_alloc _ _)))).mono ?_
  rw [decide_eq_false G1.out]
  rintro e' w2 ⟨rfl, hb2⟩
  have HB2 := hid (bfrom (w := w) (bfrom (bfrom (on_alloc _ _) (on_alloc _ _)) (on_alloc _ _)) hb2)
  have H2 := hb2
  obtain ⟨hc2, hf2⟩ := bcells H2
  have hz2 := H2.size
  simp at hz2
  go_wp2_with fail
  refine bodyPost_ret (v := .tuple #[.agg #[.int .i64 0, .slice none 0 0], .int .i64 1]) (by simp [results, Try.results31, go_sem, hc2]) rfl ⟨rfl, ?_⟩
  have h := HB2.out
  go_grown

set_option maxRecDepth 100000 in
set_option maxHeartbeats 4000000 in
theorem iSp_h (s v : Int) (p : Option Addr) (n c : Nat) (es : List (Int × Int)) (t x : Int) (q : Option Addr) (m d : Nat) (fs : List (Int × Int)) (w : World) (hm : n ≤ 1048576) (hn : es.length = n) (hr : SeesE w p es) (hm2 : m ≤ 1048576) (hn2 : fs.length = m) (hr2 : SeesE w q fs) (g1 : IsG s es) (g2 : ¬ IsG t fs) :
    Calls Try.prog 31 #[.agg #[.int .i64 s, .slice p n c], .int .i64 v, .agg #[.int .i64 t, .slice q m d], .int .i64 x] w fun e' w' => e' = .returned (.tuple #[.agg #[.int .i64 0, .slice none 0 0], .int .i64 1]) ∧ Below w.heap.size w w' := by
  have Hn := hid hn
  have Hr := hid hr
  have Hn2 := hid hn2
  have Hr2 := hid hr2
  clear hn hr hn2 hr2
  have G1 := hid g1
  clear g1
  have G2 := hid g2
  clear g2
  go_enter Try.func31, Try.ntmps31
  go_wp2_with fail
  refine (iIsGraph_any _ _ _ _ es _ (by omega) Hn.out (Hr.out.on (bfrom (bfrom (on_alloc _ _) (on_alloc _ _)) (on_alloc _ _)))).mono ?_
  rw [decide_eq_true G1.out]
  rintro e' w2 ⟨rfl, hb2⟩
  have HB2 := hid (bfrom (w := w) (bfrom (bfrom (on_alloc _ _) (on_alloc _ _)) (on_alloc _ _)) hb2)
  have H2 := hb2
  obtain ⟨hc2, hf2⟩ := bcells H2
  have hz2 := H2.size
  simp at hz2
  go_wp2_with fail
  refine (iIsGraph_any _ _ _ _ fs _ (by omega) Hn2.out (Hr2.out.on HB2.out)).mono ?_
  rw [decide_eq_false G2.out]
  rintro e' w3 ⟨rfl, hb3⟩
  have HB3 := hid (bfrom (w := w) HB2.out hb3)
  have H3 := bfrom H2 hb3
  obtain ⟨hc3, hf3⟩ := bcells H3
  have hz3 := H3.size
  simp at hz3
  clear hc2 hf2 hz2 hb3
  go_wp2_with fail
  refine bodyPost_ret (v := .tuple #[.agg #[.int .i64 0, .slice none 0 0], .int .i64 1]) (by simp [results, Try.results31, go_sem, hc3]) rfl ⟨rfl, ?_⟩
  have h := HB3.out
  go_grown

set_option maxRecDepth 100000 in
set_option maxHeartbeats 4000000 in
theorem iSp_v (s v : Int) (p : Option Addr) (n c : Nat) (es : List (Int × Int)) (t x : Int) (q : Option Addr) (m d : Nat) (fs : List (Int × Int)) (w : World) (hm : n ≤ 1048576) (hn : es.length = n) (hr : SeesE w p es) (hm2 : m ≤ 1048576) (hn2 : fs.length = m) (hr2 : SeesE w q fs) (g1 : IsG s es) (g2 : IsG t fs) (hv : ¬ (0 ≤ v ∧ v < s)) :
    Calls Try.prog 31 #[.agg #[.int .i64 s, .slice p n c], .int .i64 v, .agg #[.int .i64 t, .slice q m d], .int .i64 x] w fun e' w' => e' = .returned (.tuple #[.agg #[.int .i64 0, .slice none 0 0], .int .i64 2]) ∧ Below w.heap.size w w' := by
  have Hn := hid hn
  have Hr := hid hr
  have Hn2 := hid hn2
  have Hr2 := hid hr2
  clear hn hr hn2 hr2
  have G1 := hid g1
  clear g1
  have G2 := hid g2
  clear g2
  have Hv := hid hv
  clear hv
  go_enter Try.func31, Try.ntmps31
  go_wp2_with fail
  refine (iIsGraph_any _ _ _ _ es _ (by omega) Hn.out (Hr.out.on (bfrom (bfrom (on_alloc _ _) (on_alloc _ _)) (on_alloc _ _)))).mono ?_
  rw [decide_eq_true G1.out]
  rintro e' w2 ⟨rfl, hb2⟩
  have HB2 := hid (bfrom (w := w) (bfrom (bfrom (on_alloc _ _) (on_alloc _ _)) (on_alloc _ _)) hb2)
  have H2 := hb2
  obtain ⟨hc2, hf2⟩ := bcells H2
  have hz2 := H2.size
  simp at hz2
  go_wp2_with fail
  refine (iIsGraph_any _ _ _ _ fs _ (by omega) Hn2.out (Hr2.out.on HB2.out)).mono ?_
  rw [decide_eq_true G2.out]
  rintro e' w3 ⟨rfl, hb3⟩
  have HB3 := hid (bfrom (w := w) HB2.out hb3)
  have H3 := bfrom H2 hb3
  obtain ⟨hc3, hf3⟩ := bcells H3
  have hz3 := H3.size
  simp at hz3
  clear hc2 hf2 hz2 hb3
  go_wp2_with fail
  refine (iBelow_no _ _ _ Hv.out).mono ?_
  rintro e' w' ⟨rfl, rfl⟩
  go_wp2_with fail
  refine bodyPost_ret (v := .tuple #[.agg #[.int .i64 0, .slice none 0 0], .int .i64 2]) (by simp [results, Try.results31, go_sem, hc3]) rfl ⟨rfl, ?_⟩
  have h := HB3.out
  go_grown

set_option maxRecDepth 100000 in
set_option maxHeartbeats 4000000 in
theorem iSp_x (s v : Int) (p : Option Addr) (n c : Nat) (es : List (Int × Int)) (t x : Int) (q : Option Addr) (m d : Nat) (fs : List (Int × Int)) (w : World) (hm : n ≤ 1048576) (hn : es.length = n) (hr : SeesE w p es) (hm2 : m ≤ 1048576) (hn2 : fs.length = m) (hr2 : SeesE w q fs) (g1 : IsG s es) (g2 : IsG t fs) (hv : 0 ≤ v ∧ v < s) (hx : ¬ (0 ≤ x ∧ x < t)) :
    Calls Try.prog 31 #[.agg #[.int .i64 s, .slice p n c], .int .i64 v, .agg #[.int .i64 t, .slice q m d], .int .i64 x] w fun e' w' => e' = .returned (.tuple #[.agg #[.int .i64 0, .slice none 0 0], .int .i64 2]) ∧ Below w.heap.size w w' := by
  have Hn := hid hn
  have Hr := hid hr
  have Hn2 := hid hn2
  have Hr2 := hid hr2
  clear hn hr hn2 hr2
  have G1 := hid g1
  clear g1
  have G2 := hid g2
  clear g2
  have Hv := hid hv
  clear hv
  have Hx := hid hx
  clear hx
  go_enter Try.func31, Try.ntmps31
  go_wp2_with fail
  refine (iIsGraph_any _ _ _ _ es _ (by omega) Hn.out (Hr.out.on (bfrom (bfrom (on_alloc _ _) (on_alloc _ _)) (on_alloc _ _)))).mono ?_
  rw [decide_eq_true G1.out]
  rintro e' w2 ⟨rfl, hb2⟩
  have HB2 := hid (bfrom (w := w) (bfrom (bfrom (on_alloc _ _) (on_alloc _ _)) (on_alloc _ _)) hb2)
  have H2 := hb2
  obtain ⟨hc2, hf2⟩ := bcells H2
  have hz2 := H2.size
  simp at hz2
  go_wp2_with fail
  refine (iIsGraph_any _ _ _ _ fs _ (by omega) Hn2.out (Hr2.out.on HB2.out)).mono ?_
  rw [decide_eq_true G2.out]
  rintro e' w3 ⟨rfl, hb3⟩
  have HB3 := hid (bfrom (w := w) HB2.out hb3)
  have H3 := bfrom H2 hb3
  obtain ⟨hc3, hf3⟩ := bcells H3
  have hz3 := H3.size
  simp at hz3
  clear hc2 hf2 hz2 hb3
  go_wp2_with fail
  refine (iBelow_yes _ _ _ Hv.out).mono ?_
  rintro e' w' ⟨rfl, rfl⟩
  go_wp2_with fail
  refine (iBelow_no _ _ _ Hx.out).mono ?_
  rintro e' w' ⟨rfl, rfl⟩
  go_wp2_with fail
  refine bodyPost_ret (v := .tuple #[.agg #[.int .i64 0, .slice none 0 0], .int .i64 2]) (by simp [results, Try.results31, go_sem, hc3]) rfl ⟨rfl, ?_⟩
  have h := HB3.out
  go_grown

set_option maxRecDepth 100000 in
set_option maxHeartbeats 4000000 in
theorem iSp_two1 (s v : Int) (p : Option Addr) (n c : Nat) (es : List (Int × Int)) (t x : Int) (q : Option Addr) (m d : Nat) (fs : List (Int × Int)) (w : World) (hm : n ≤ 1048576) (hn : es.length = n) (hr : SeesE w p es) (hm2 : m ≤ 1048576) (hn2 : fs.length = m) (hr2 : SeesE w q fs) (g1 : IsG s es) (g2 : IsG t fs) (hv : 0 ≤ v ∧ v < s) (hx : 0 ≤ x ∧ x < t) (h1 : (s == 2) = true) :
    Calls Try.prog 31 #[.agg #[.int .i64 s, .slice p n c], .int .i64 v, .agg #[.int .i64 t, .slice q m d], .int .i64 x] w fun e' w' => e' = .returned (.tuple #[.agg #[.int .i64 0, .slice none 0 0], .int .i64 5]) ∧ Below w.heap.size w w' := by
  have Hn := hid hn
  have Hr := hid hr
  have Hn2 := hid hn2
  have Hr2 := hid hr2
  clear hn hr hn2 hr2
  have G1 := hid g1
  clear g1
  have G2 := hid g2
  clear g2
  have Hv := hid hv
  clear hv
  have Hx := hid hx
  clear hx
  go_enter Try.func31, Try.ntmps31
  go_wp2_with fail
  refine (iIsGraph_any _ _ _ _ es _ (by omega) Hn.out (Hr.out.on (bfrom (bfrom (on_alloc _ _) (on_alloc _ _)) (on_alloc _ _)))).mono ?_
  rw [decide_eq_true G1.out]
  rintro e' w2 ⟨rfl, hb2⟩
  have HB2 := hid (bfrom (w := w) (bfrom (bfrom (on_alloc _ _) (on_alloc _ _)) (on_alloc _ _)) hb2)
  have H2 := hb2
  obtain ⟨hc2, hf2⟩ := bcells H2
  have hz2 := H2.size
  simp at hz2
  go_wp2_with fail
  refine (iIsGraph_any _ _ _ _ fs _ (by omega) Hn2.out (Hr2.out.on HB2.out)).mono ?_
  rw [decide_eq_true G2.out]
  rintro e' w3 ⟨rfl, hb3⟩
  have HB3 := hid (bfrom (w := w) HB2.out hb3)
  have H3 := bfrom H2 hb3
  obtain ⟨hc3, hf3⟩ := bcells H3
  have hz3 := H3.size
  simp at hz3
  clear hc2 hf2 hz2 hb3
  go_wp2_with fail
  refine (iBelow_yes _ _ _ Hv.out).mono ?_
  rintro e' w' ⟨rfl, rfl⟩
  go_wp2_with fail
  refine (iBelow_yes _ _ _ Hx.out).mono ?_
  rintro e' w' ⟨rfl, rfl⟩
  go_wp2_with fail
  refine bodyPost_ret (v := .tuple #[.agg #[.int .i64 0, .slice none 0 0], .int .i64 5]) (by simp [results, Try.results31, go_sem, hc3]) rfl ⟨rfl, ?_⟩
  have h := HB3.out
  go_grown

set_option maxRecDepth 100000 in
set_option maxHeartbeats 4000000 in
theorem iSp_two2 (s v : Int) (p : Option Addr) (n c : Nat) (es : List (Int × Int)) (t x : Int) (q : Option Addr) (m d : Nat) (fs : List (Int × Int)) (w : World) (hm : n ≤ 1048576) (hn : es.length = n) (hr : SeesE w p es) (hm2 : m ≤ 1048576) (hn2 : fs.length = m) (hr2 : SeesE w q fs) (g1 : IsG s es) (g2 : IsG t fs) (hv : 0 ≤ v ∧ v < s) (hx : 0 ≤ x ∧ x < t) (h1 : (s == 2) = false) (h2 : (t == 2) = true) :
    Calls Try.prog 31 #[.agg #[.int .i64 s, .slice p n c], .int .i64 v, .agg #[.int .i64 t, .slice q m d], .int .i64 x] w fun e' w' => e' = .returned (.tuple #[.agg #[.int .i64 0, .slice none 0 0], .int .i64 5]) ∧ Below w.heap.size w w' := by
  have Hn := hid hn
  have Hr := hid hr
  have Hn2 := hid hn2
  have Hr2 := hid hr2
  clear hn hr hn2 hr2
  have G1 := hid g1
  clear g1
  have G2 := hid g2
  clear g2
  have Hv := hid hv
  clear hv
  have Hx := hid hx
  clear hx
  go_enter Try.func31, Try.ntmps31
  go_wp2_with fail
  refine (iIsGraph_any _ _ _ _ es _ (by omega) Hn.out (Hr.out.on (bfrom (bfrom (on_alloc _ _) (on_alloc _ _)) (on_alloc _ _)))).mono ?_
  rw [decide_eq_true G1.out]
  rintro e' w2 ⟨rfl, hb2⟩
  have HB2 := hid (bfrom (w := w) (bfrom (bfrom (on_alloc _ _) (on_alloc _ _)) (on_alloc _ _)) hb2)
  have H2 := hb2
  obtain ⟨hc2, hf2⟩ := bcells H2
  have hz2 := H2.size
  simp at hz2
  go_wp2_with fail
  refine (iIsGraph_any _ _ _ _ fs _ (by omega) Hn2.out (Hr2.out.on HB2.out)).mono ?_
  rw [decide_eq_true G2.out]
  rintro e' w3 ⟨rfl, hb3⟩
  have HB3 := hid (bfrom (w := w) HB2.out hb3)
  have H3 := bfrom H2 hb3
  obtain ⟨hc3, hf3⟩ := bcells H3
  have hz3 := H3.size
  simp at hz3
  clear hc2 hf2 hz2 hb3
  go_wp2_with fail
  refine (iBelow_yes _ _ _ Hv.out).mono ?_
  rintro e' w' ⟨rfl, rfl⟩
  go_wp2_with fail
  refine (iBelow_yes _ _ _ Hx.out).mono ?_
  rintro e' w' ⟨rfl, rfl⟩
  go_wp2_with fail
  refine bodyPost_ret (v := .tuple #[.agg #[.int .i64 0, .slice none 0 0], .int .i64 5]) (by simp [results, Try.results31, go_sem, hc3]) rfl ⟨rfl, ?_⟩
  have h := HB3.out
  go_grown

set_option maxRecDepth 100000 in
set_option maxHeartbeats 4000000 in
theorem iSp_big (s v : Int) (p : Option Addr) (n c : Nat) (es : List (Int × Int)) (t x : Int) (q : Option Addr) (m d : Nat) (fs : List (Int × Int)) (w : World) (hm : n ≤ 1048576) (hn : es.length = n) (hr : SeesE w p es) (hm2 : m ≤ 1048576) (hn2 : fs.length = m) (hr2 : SeesE w q fs) (g1 : IsG s es) (g2 : IsG t fs) (hv : 0 ≤ v ∧ v < s) (hx : 0 ≤ x ∧ x < t) (h1 : (s == 2) = false) (h2 : (t == 2) = false) (h3 : decide (20 < s + t - 2) = true) :
    Calls Try.prog 31 #[.agg #[.int .i64 s, .slice p n c], .int .i64 v, .agg #[.int .i64 t, .slice q m d], .int .i64 x] w fun e' w' => e' = .returned (.tuple #[.agg #[.int .i64 0, .slice none 0 0], .int .i64 3]) ∧ Below w.heap.size w w' := by
  have Hn := hid hn
  have Hr := hid hr
  have Hn2 := hid hn2
  have Hr2 := hid hr2
  clear hn hr hn2 hr2
  have G1 := hid g1
  clear g1
  have G2 := hid g2
  clear g2
  have Hv := hid hv
  clear hv
  have Hx := hid hx
  clear hx
  have e1 : IntKind.i64.wrap (s + t) = s + t := IntWalk.i64_in _ (by have h := G1.out.1.1; have h' := G2.out.1.1; unfold okSize at h h'; omega)
  have e2 : IntKind.i64.wrap (s + t - 2) = s + t - 2 := IntWalk.i64_in _ (by have h := G1.out.1.1; have h' := G2.out.1.1; unfold okSize at h h'; omega)
  go_enter Try.func31, Try.ntmps31
  go_wp2_with fail
  refine (iIsGraph_any _ _ _ _ es _ (by omega) Hn.out (Hr.out.on (bfrom (bfrom (on_alloc _ _) (on_alloc _ _)) (on_alloc _ _)))).mono ?_
  rw [decide_eq_true G1.out]
  rintro e' w2 ⟨rfl, hb2⟩
  have HB2 := hid (bfrom (w := w) (bfrom (bfrom (on_alloc _ _) (on_alloc _ _)) (on_alloc _ _)) hb2)
  have H2 := hb2
  obtain ⟨hc2, hf2⟩ := bcells H2
  have hz2 := H2.size
  simp at hz2
  go_wp2_with fail
  refine (iIsGraph_any _ _ _ _ fs _ (by omega) Hn2.out (Hr2.out.on HB2.out)).mono ?_
  rw [decide_eq_true G2.out]
  rintro e' w3 ⟨rfl, hb3⟩
  have HB3 := hid (bfrom (w := w) HB2.out hb3)
  have H3 := bfrom H2 hb3
  obtain ⟨hc3, hf3⟩ := bcells H3
  have hz3 := H3.size
  simp at hz3
  clear hc2 hf2 hz2 hb3
  go_wp2_with fail
  refine (iBelow_yes _ _ _ Hv.out).mono ?_
  rintro e' w' ⟨rfl, rfl⟩
  go_wp2_with fail
  refine (iBelow_yes _ _ _ Hx.out).mono ?_
  rintro e' w' ⟨rfl, rfl⟩
  go_wp2_with fail
  refine bodyPost_ret (v := .tuple #[.agg #[.int .i64 0, .slice none 0 0], .int .i64 3]) (by simp [results, Try.results31, go_sem, hc3]) rfl ⟨rfl, ?_⟩
  have h := HB3.out
  go_grown

end Go.Proofs.Ytpadnliebimceaa
