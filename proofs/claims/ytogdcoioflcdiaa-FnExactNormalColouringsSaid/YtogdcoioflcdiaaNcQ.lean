/- NormalColourings at any argument, in the model and in the program. -/
import Derived.Test.YtogdcoioflcdiaaNcP
import Derived.Test.YtogdcoioflcdiaaNrmT
import Derived.Test.YtogdcoioflcdiaaSeesM
namespace Go.Proofs.Ytogdcoioflcdiaa
open Go.RowKit Go.Shelf

def fNormalColourings (s : Int) (es : List (Int × Int)) : List (List Int) × Int := if IsG s es then ncF (nrmL es) else ([], 1)
theorem ncF_len (Us : List (List Int)) : (ncF Us).1.length ≤ 200 := by
  unfold ncF
  by_cases h : Us.length ≤ 200
  · rw [if_pos h]; exact h
  · rw [if_neg h]; simp
theorem fNormalColourings_len (s : Int) (es : List (Int × Int)) (_ : es.length ≤ 1048576) : (fNormalColourings s es).1.length ≤ 1048576 := by
  unfold fNormalColourings
  by_cases g : IsG s es
  · rw [if_pos g]
    have := ncF_len (nrmL es)
    omega
  · rw [if_neg g]; simp
theorem sumLL_cap {Ls : List (List Int)} {m : Nat} (h : ∀ i, i < Ls.length → (lI Ls i).length ≤ m) : ∀ j, j ≤ Ls.length → sumLL Ls j ≤ j * m := by
  intro j
  induction j with
  | zero => intro _; simp [sumLL]
  | succ j ih =>
    intro hj
    have h1 := ih (by omega)
    have h2 := h j (by omega)
    show sumLL Ls j + (lI Ls j).length ≤ (j + 1) * m
    rw [Nat.add_mul]
    omega
theorem lI_in {Ls : List (List Int)} {i : Nat} (h : i < Ls.length) : lI Ls i ∈ Ls := by
  have h1 := lI_lt h
  exact List.mem_of_getElem? h1
theorem nrmL_len2 {s : Int} {es : List (Int × Int)} (g : IsG s es) {x : List Int} (h : x ∈ nrmL es) : x.length = es.length := by
  have h1 := nrmF_len _ _ _ h
  have h2 := three_leN g
  rw [h1]
  show 3 + (es.length - 3) = _
  omega
theorem fNormalColourings_sum (s : Int) (es : List (Int × Int)) (_ : es.length ≤ 1048576) : 1 + sumLL (fNormalColourings s es).1 (fNormalColourings s es).1.length ≤ 1048576 := by
  unfold fNormalColourings
  by_cases g : IsG s es
  · rw [if_pos g]
    have h30 := isG_len g
    have h1 := ncF_len (nrmL es)
    have h2 : ∀ i, i < (ncF (nrmL es)).1.length → (lI (ncF (nrmL es)).1 i).length ≤ 30 := fun i hi => by
      have h3 := lI_in hi
      have h4 : lI (ncF (nrmL es)).1 i ∈ nrmL es := by
        revert h3
        generalize lI (ncF (nrmL es)).1 i = X
        unfold ncF
        split
        · exact id
        · intro h; simp at h
      rw [nrmL_len2 g h4]
      omega
    have h5 := sumLL_cap h2 _ (Nat.le_refl _)
    have h6 : (ncF (nrmL es)).1.length * 30 ≤ 200 * 30 := Nat.mul_le_mul_right 30 h1
    omega
  · rw [if_neg g]; simp [sumLL]

set_option maxRecDepth 100000 in
set_option maxHeartbeats 4000000 in
theorem sNc_yes (s : Int) (b off n c : Nat) (es : List (Int × Int)) (w : World) (hn : es.length = n) (hr : ReadsE w b off es) (g : IsG s es) :
    Calls Try.prog 44 #[.agg #[.int .i64 s, .slice (some ⟨b, off, none⟩) n c]] w fun e' w' => ∃ q cap, e' = .returned (.tuple #[.slice q (ncF (nrmL es)).1.length cap, .int .i64 (ncF (nrmL es)).2]) ∧ SeesL w' q (ncF (nrmL es)).1 ∧ Below w.heap.size w w' := by
  have hn30 : n ≤ 30 := by have := isG_len g; omega
  have Hn := hid hn
  have Hr := hid hr
  have G := hid g
  obtain ⟨F, hF⟩ : ∃ F, ncF (nrmL es) = F := ⟨_, rfl⟩
  rw [hF]
  have HF := hid hF
  clear hn hr g hF
  go_enter Try.func44, Try.ntmps44
  go_wp2_with fail
  refine (sIs_any _ _ _ _ es _ (by omega) Hn.out (SeesE.on (.inr ⟨b, off, rfl, Hr.out⟩) (on_alloc _ _))).mono ?_
  rw [decide_eq_true G.out]
  rintro e w2 ⟨rfl, hb2⟩
  have HB2 := hid (bfrom (w := w) (on_alloc _ _) hb2)
  have hX2 := (Box.new w s (some ⟨b, off, none⟩) n c 31).on hb2
  have hx2 := hX2.1
  have hy2 := hX2.2
  have hz2 := hX2.lt
  clear hX2 hb2
  go_wp2_with fail
  refine (sNormal_any s b off n c 200 es _ Hn.out G.out (Hr.out.on HB2.out) (by omega)).mono ?_
  rintro e w3 ⟨q3, cap3, vals3, he, hr3, hb3⟩
  have HB3 := hid (bfrom HB2.out hb3)
  have hw23 := hb3.size
  by_cases h0 : (nrmL es).length ≤ 200
  · have hT : (nrmL es).take (200 + 1) = nrmL es := List.take_of_length_le (by omega)
    rw [hT] at he hr3
    have HF0 := hid (show F = (nrmL es, 0) by rw [← HF.out]; unfold ncF; rw [if_pos h0])
    have HS := hid hr3.seesL
    obtain ⟨T, hT2⟩ : ∃ T, (nrmL es).length = T := ⟨_, rfl⟩
    rw [hT2] at he h0
    subst he
    have hle : ¬ (200 < (T : Int)) := by omega
    have HT := hid hT2
    clear hr3 hb3 hx2 hy2 hT hT2
    go_wp2
    go_ret2
    rw [HF0.out]
    exact ⟨q3, cap3, by rw [HT.out]; rfl, HS.out, HB3.out⟩
  · have hT : ((nrmL es).take (200 + 1)).length = 201 := by rw [List.length_take]; omega
    rw [hT] at he
    subst he
    have HF0 := hid (show F = ([], 3) by rw [← HF.out]; unfold ncF; rw [if_neg h0])
    clear hr3 hb3 hx2 hy2 h0 hT
    go_wp2
    go_ret2
    rw [HF0.out]
    exact ⟨none, 0, rfl, .inl rfl, HB3.out⟩

set_option maxRecDepth 100000 in
set_option maxHeartbeats 2000000 in
theorem sNc_no (s : Int) (p : Option Addr) (n c : Nat) (es : List (Int × Int)) (w : World) (hm : n ≤ 1048576) (hn : es.length = n) (hr : SeesE w p es) (g : ¬ IsG s es) :
    Calls Try.prog 44 #[.agg #[.int .i64 s, .slice p n c]] w fun e' w' => e' = .returned (.tuple #[.slice none 0 0, .int .i64 1]) ∧ Below w.heap.size w w' := by
  have Hn := hid hn
  have Hr := hid hr
  have G := hid g
  clear hn hr g
  go_enter Try.func44, Try.ntmps44
  go_wp2_with fail
  refine (sIs_any _ _ _ _ es _ (by omega) Hn.out (Hr.out.on (on_alloc _ _))).mono ?_
  rw [decide_eq_false G.out]
  rintro e w2 ⟨rfl, hb2⟩
  have hB2 := bfrom (w := w) (by go_grown) hb2
  go_wp2
  go_ret2
  exact ⟨rfl, hB2⟩

set_option maxRecDepth 100000 in
set_option maxHeartbeats 2000000 in
theorem iNc_no (s : Int) (p : Option Addr) (n c : Nat) (es : List (Int × Int)) (w : World) (hm : n ≤ 1048576) (hn : es.length = n) (hr : SeesE w p es) (g : ¬ IsG s es) :
    Calls Try.prog 45 #[.agg #[.int .i64 s, .slice p n c]] w fun e' w' => e' = .returned (.tuple #[.slice none 0 0, .int .i64 1]) ∧ Below w.heap.size w w' := by
  have Hn := hid hn
  have Hr := hid hr
  have G := hid g
  have HB0 := hid (show Below w.heap.size w (((w.alloc (.cells #[.int .i64 s, .slice p n c] 31)).alloc (.cells #[.slice none 0 0] 42)).alloc (.cells #[.int .i64 0] 2)) from bfrom (bfrom (on_alloc _ _) (on_alloc _ _)) (on_alloc _ _))
  have hR4 := (Boxed.new (w.alloc (.cells #[.int .i64 s, .slice p n c] 31)) 42 (.slice none 0 0)).alloc (.cells #[.int .i64 0] 2)
  have hR5 := Boxed.new ((w.alloc (.cells #[.int .i64 s, .slice p n c] 31)).alloc (.cells #[.slice none 0 0] 42)) 2 (.int .i64 0)
  simp only [World.size_alloc] at hR4 hR5
  have HR4 := hid hR4
  have HR5 := hid hR5
  clear hn hr g hR4 hR5
  go_enter Try.func45, Try.ntmps45
  go_wp2_with fail
  refine (iIsGraph_any _ _ _ _ es _ hm Hn.out (Hr.out.on HB0.out)).mono ?_
  rw [decide_eq_false G.out]
  rintro e w2 ⟨rfl, hb2⟩
  have HB2 := hid (bfrom HB0.out hb2)
  have hq4 : Boxed w2 (w.heap.size + 1) 42 (.slice none 0 0) := (hb2.block (w.heap.size + 1) (by simp)).trans HR4.out
  have hq5 : Boxed w2 (w.heap.size + 1 + 1) 2 (.int .i64 0) := (hb2.block (w.heap.size + 1 + 1) (by simp)).trans HR5.out
  have hc4 := hq4.cell
  have hc5 := hq5.cell
  have hf4 := hq4.frozen
  have hf5 := hq5.frozen
  have hz4 := hq4.lt
  have hz5 := hq5.lt
  clear hb2
  go_wp2
  refine bodyPost_ret (results_lists rfl _ _ (w.heap.size + 1) (w.heap.size + 1 + 1) _ _ _ _ rfl rfl ((Boxed.set _ hq4).other (by omega) _) (Boxed.set _ (hq5.other (by omega) _))) rfl ?_
  exact ⟨rfl, (HB2.out.setCell (p := ⟨w.heap.size + 1, 0, none⟩) (by show w.heap.size ≤ w.heap.size + 1; omega) _).setCell (p := ⟨w.heap.size + 1 + 1, 0, none⟩) (by show w.heap.size ≤ w.heap.size + 1 + 1; omega) _⟩

theorem sNormalColourings_any (s : Int) (p : Option Addr) (n c : Nat) (es : List (Int × Int)) (w : World) (hm : n ≤ 1048576) (hn : es.length = n) (hr : SeesE w p es) :
    Calls Try.prog 44 #[.agg #[.int .i64 s, .slice p n c]] w fun e' w' => ∃ q cap, e' = .returned (.tuple #[.slice q (fNormalColourings s es).1.length cap, .int .i64 (fNormalColourings s es).2]) ∧ SeesL w' q (fNormalColourings s es).1 ∧ Below w.heap.size w w' := by
  unfold fNormalColourings
  by_cases g : IsG s es
  · rw [if_pos g]
    obtain ⟨b, off, rfl, rd⟩ := isG_sees g hr
    exact sNc_yes s b off n c es w hn rd g
  · rw [if_neg g]
    exact (sNc_no s p n c es w hm hn hr g).mono fun e w' ⟨he, hb⟩ => ⟨none, 0, he, .inl rfl, hb⟩
theorem iNormalColourings_any (s : Int) (p : Option Addr) (n c : Nat) (es : List (Int × Int)) (w : World) (hm : n ≤ 1048576) (hn : es.length = n) (hr : SeesE w p es) :
    Calls Try.prog 45 #[.agg #[.int .i64 s, .slice p n c]] w fun e' w' => ∃ q cap, e' = .returned (.tuple #[.slice q (fNormalColourings s es).1.length cap, .int .i64 (fNormalColourings s es).2]) ∧ FreshP w.heap.size w' q (fNormalColourings s es).1.length (fNormalColourings s es).1 ∧ Below w.heap.size w w' := by
  unfold fNormalColourings
  by_cases g : IsG s es
  · rw [if_pos g]
    obtain ⟨b, off, rfl, rd⟩ := isG_sees g hr
    exact iNc_yes s b off n c es w hn rd g
  · rw [if_neg g]
    exact (iNc_no s p n c es w hm hn hr g).mono fun e w' ⟨he, hb⟩ => ⟨none, 0, he, ⟨rfl, .inl rfl⟩, hb⟩


end Go.Proofs.Ytogdcoioflcdiaa
