/- MatchingsOf at any argument, in the model and in the program. -/
import Derived.Test.YthacpadadccioaaMtP
import Derived.Test.YthacpadadccioaaMtS
import Derived.Test.YthacpadadccioaaSeesM
namespace Go.Proofs.Ythacpadadccioaa
open Go.RowKit Go.Shelf

def fMatchingsOf (s : Int) (es : List (Int × Int)) : List (List Int) × Int := if IsG s es then mcF (mtL s.toNat es) else ([], 1)
theorem mcF_len (Us : List (List Int)) : (mcF Us).1.length ≤ 60 := by
  unfold mcF
  by_cases h : Us.length ≤ 60
  · rw [if_pos h]; exact h
  · rw [if_neg h]; simp
theorem fMatchingsOf_len (s : Int) (es : List (Int × Int)) (_ : es.length ≤ 1048576) : (fMatchingsOf s es).1.length ≤ 1048576 := by
  unfold fMatchingsOf
  by_cases g : IsG s es
  · rw [if_pos g]
    have := mcF_len (mtL s.toNat es)
    omega
  · rw [if_neg g]; simp
theorem sumLL_cap {Ls : List (List Int)} {m : Nat} (h : ∀ i, i < Ls.length → (lI Ls i).length ≤ m) : ∀ j, j ≤ Ls.length → sumLL Ls j ≤ j * m := by
  intro j
  induction j with
  | zero => intro _; simp [sumLL]
  | succ j ih =>
    intro hj
    have h1 := ih (by omega)
    have h2 := h j (by omega)
    show sumLL Ls j + (lI Ls j).length ≤ (j + 1) * m
    rw [Nat.add_mul]
    omega
theorem lI_in {Ls : List (List Int)} {i : Nat} (h : i < Ls.length) : lI Ls i ∈ Ls := by
  have h1 := lI_lt h
  exact List.mem_of_getElem? h1
theorem mtL_len {N : Nat} {es : List (Int × Int)} {x : List Int} (h : x ∈ mtL N es) : x.length = N / 2 := by
  have h1 := mtF_len _ _ _ _ h
  rw [h1]
  simp
theorem fMatchingsOf_sum (s : Int) (es : List (Int × Int)) (_ : es.length ≤ 1048576) : 1 + sumLL (fMatchingsOf s es).1 (fMatchingsOf s es).1.length ≤ 1048576 := by
  unfold fMatchingsOf
  by_cases g : IsG s es
  · rw [if_pos g]
    have h30 := isG_len g
    have h1 := mcF_len (mtL s.toNat es)
    have h2 : ∀ i, i < (mcF (mtL s.toNat es)).1.length → (lI (mcF (mtL s.toNat es)).1 i).length ≤ 30 := fun i hi => by
      have h3 := lI_in hi
      have h4 : lI (mcF (mtL s.toNat es)).1 i ∈ mtL s.toNat es := by
        revert h3
        generalize lI (mcF (mtL s.toNat es)).1 i = X
        unfold mcF
        split
        · exact id
        · intro h; simp at h
      rw [mtL_len h4]
      have := g.1.1.2.1
      omega
    have h5 := sumLL_cap h2 _ (Nat.le_refl _)
    have h6 : (mcF (mtL s.toNat es)).1.length * 30 ≤ 60 * 30 := Nat.mul_le_mul_right 30 h1
    omega
  · rw [if_neg g]; simp [sumLL]

set_option maxRecDepth 100000 in
set_option maxHeartbeats 4000000 in
theorem sMc_yes (N H : Nat) (b off n c : Nat) (es : List (Int × Int)) (w : World) (hn : es.length = n) (hr : ReadsE w b off es) (g : IsG N es) (hH : N = 2 * H) :
    Calls Try.prog 20 #[.agg #[.int .i64 N, .slice (some ⟨b, off, none⟩) n c]] w fun e' w' => ∃ q cap, e' = .returned (.tuple #[.slice q (mcF (mtL N es)).1.length cap, .int .i64 (mcF (mtL N es)).2]) ∧ SeesL w' q (mcF (mtL N es)).1 ∧ Below w.heap.size w w' := by
  have hn30 : n ≤ 30 := by have := isG_len g; omega
  have Hn := hid hn
  have Hr := hid hr
  have G := hid g
  have HH := hid hH
  obtain ⟨F, hF⟩ : ∃ F, mcF (mtL N es) = F := ⟨_, rfl⟩
  rw [hF]
  have HF := hid hF
  clear hn hr g hF hH
  go_enter Try.func20, Try.ntmps20
  go_wp2_with fail
  refine (sIs_any _ _ _ _ es _ (by omega) Hn.out (SeesE.on (.inr ⟨b, off, rfl, Hr.out⟩) (on_alloc _ _))).mono ?_
  rw [decide_eq_true G.out]
  rintro e w2 ⟨rfl, hb2⟩
  have HB2 := hid (bfrom (w := w) (on_alloc _ _) hb2)
  have hX2 := (Box.new w N (some ⟨b, off, none⟩) n c 30).on hb2
  have hx2 := hX2.1
  have hy2 := hX2.2
  have hz2 := hX2.lt
  clear hX2 hb2
  go_wp2_with fail
  refine (sAll_any N b off n c H es _ G.out Hn.out (Hr.out.on HB2.out) HH.out).mono ?_
  rintro e w3 ⟨q3, cap3, vals3, he, hr3, hb3⟩
  have HB3 := hid (bfrom HB2.out hb3)
  have hw23 := hb3.size
  have HS := hid hr3.seesL
  obtain ⟨T, hT2⟩ : ∃ T, (mtL N es).length = T := ⟨_, rfl⟩
  rw [hT2] at he
  subst he
  by_cases h0 : T ≤ 60
  · have HF0 := hid (show F = (mtL N es, 0) by rw [← HF.out]; unfold mcF; rw [if_pos (by omega)])
    have hle : ¬ (60 < (T : Int)) := by omega
    have HT := hid hT2
    clear hr3 hb3 hx2 hy2 hT2
    go_wp2
    go_ret2
    rw [HF0.out]
    exact ⟨q3, cap3, by rw [HT.out]; rfl, HS.out, HB3.out⟩
  · have HF0 := hid (show F = ([], 3) by rw [← HF.out]; unfold mcF; rw [if_neg (by omega)])
    have hle : (60 : Int) < (T : Int) := by omega
    clear hr3 hb3 hx2 hy2 h0 hT2
    go_wp2
    go_ret2
    rw [HF0.out]
    exact ⟨none, 0, rfl, .inl rfl, HB3.out⟩

set_option maxRecDepth 100000 in
set_option maxHeartbeats 2000000 in
theorem sMc_no (s : Int) (p : Option Addr) (n c : Nat) (es : List (Int × Int)) (w : World) (hm : n ≤ 1048576) (hn : es.length = n) (hr : SeesE w p es) (g : ¬ IsG s es) :
    Calls Try.prog 20 #[.agg #[.int .i64 s, .slice p n c]] w fun e' w' => e' = .returned (.tuple #[.slice none 0 0, .int .i64 1]) ∧ Below w.heap.size w w' := by
  have Hn := hid hn
  have Hr := hid hr
  have G := hid g
  clear hn hr g
  go_enter Try.func20, Try.ntmps20
  go_wp2_with fail
  refine (sIs_any _ _ _ _ es _ (by omega) Hn.out (Hr.out.on (on_alloc _ _))).mono ?_
  rw [decide_eq_false G.out]
  rintro e w2 ⟨rfl, hb2⟩
  have hB2 := bfrom (w := w) (by go_grown) hb2
  go_wp2
  go_ret2
  exact ⟨rfl, hB2⟩

set_option maxRecDepth 100000 in
set_option maxHeartbeats 2000000 in
theorem iMc_no (s : Int) (p : Option Addr) (n c : Nat) (es : List (Int × Int)) (w : World) (hm : n ≤ 1048576) (hn : es.length = n) (hr : SeesE w p es) (g : ¬ IsG s es) :
    Calls Try.prog 21 #[.agg #[.int .i64 s, .slice p n c]] w fun e' w' => e' = .returned (.tuple #[.slice none 0 0, .int .i64 1]) ∧ Below w.heap.size w w' := by
  have Hn := hid hn
  have Hr := hid hr
  have G := hid g
  have HB0 := hid (show Below w.heap.size w (((w.alloc (.cells #[.int .i64 s, .slice p n c] 30)).alloc (.cells #[.slice none 0 0] 34)).alloc (.cells #[.int .i64 0] 2)) from bfrom (bfrom (on_alloc _ _) (on_alloc _ _)) (on_alloc _ _))
  have hR4 := (Boxed.new (w.alloc (.cells #[.int .i64 s, .slice p n c] 30)) 34 (.slice none 0 0)).alloc (.cells #[.int .i64 0] 2)
  have hR5 := Boxed.new ((w.alloc (.cells #[.int .i64 s, .slice p n c] 30)).alloc (.cells #[.slice none 0 0] 34)) 2 (.int .i64 0)
  simp only [World.size_alloc] at hR4 hR5
  have HR4 := hid hR4
  have HR5 := hid hR5
  clear hn hr g hR4 hR5
  go_enter Try.func21, Try.ntmps21
  go_wp2_with fail
  refine (iIsGraph_any _ _ _ _ es _ hm Hn.out (Hr.out.on HB0.out)).mono ?_
  rw [decide_eq_false G.out]
  rintro e w2 ⟨rfl, hb2⟩
  have HB2 := hid (bfrom HB0.out hb2)
  have hq4 : Boxed w2 (w.heap.size + 1) 34 (.slice none 0 0) := (hb2.block (w.heap.size + 1) (by simp)).trans HR4.out
  have hq5 : Boxed w2 (w.heap.size + 1 + 1) 2 (.int .i64 0) := (hb2.block (w.heap.size + 1 + 1) (by simp)).trans HR5.out
  have hc4 := hq4.cell
  have hc5 := hq5.cell
  have hf4 := hq4.frozen
  have hf5 := hq5.frozen
  have hz4 := hq4.lt
  have hz5 := hq5.lt
  clear hb2
  go_wp2
  refine bodyPost_ret (results_lists rfl _ _ (w.heap.size + 1) (w.heap.size + 1 + 1) _ _ _ _ rfl rfl ((Boxed.set _ hq4).other (by omega) _) (Boxed.set _ (hq5.other (by omega) _))) rfl ?_
  exact ⟨rfl, (HB2.out.setCell (p := ⟨w.heap.size + 1, 0, none⟩) (by show w.heap.size ≤ w.heap.size + 1; omega) _).setCell (p := ⟨w.heap.size + 1 + 1, 0, none⟩) (by show w.heap.size ≤ w.heap.size + 1 + 1; omega) _⟩

theorem sMatchingsOf_any (s : Int) (p : Option Addr) (n c : Nat) (es : List (Int × Int)) (w : World) (hm : n ≤ 1048576) (hn : es.length = n) (hr : SeesE w p es) :
    Calls Try.prog 20 #[.agg #[.int .i64 s, .slice p n c]] w fun e' w' => ∃ q cap, e' = .returned (.tuple #[.slice q (fMatchingsOf s es).1.length cap, .int .i64 (fMatchingsOf s es).2]) ∧ SeesL w' q (fMatchingsOf s es).1 ∧ Below w.heap.size w w' := by
  unfold fMatchingsOf
  by_cases g : IsG s es
  · rw [if_pos g]
    obtain ⟨b, off, rfl, rd⟩ := isG_sees g hr
    obtain ⟨N, rfl⟩ : ∃ N : Nat, s = N := ⟨_, (Int.toNat_of_nonneg (by have := g.1.1.1; omega)).symm⟩
    rw [Int.toNat_natCast]
    exact sMc_yes N (N / 2) b off n c es w hn rd g (by have := g.1.1.2.2.1; omega)
  · rw [if_neg g]
    exact (sMc_no s p n c es w hm hn hr g).mono fun e w' ⟨he, hb⟩ => ⟨none, 0, he, .inl rfl, hb⟩
theorem iMatchingsOf_any (s : Int) (p : Option Addr) (n c : Nat) (es : List (Int × Int)) (w : World) (hm : n ≤ 1048576) (hn : es.length = n) (hr : SeesE w p es) :
    Calls Try.prog 21 #[.agg #[.int .i64 s, .slice p n c]] w fun e' w' => ∃ q cap, e' = .returned (.tuple #[.slice q (fMatchingsOf s es).1.length cap, .int .i64 (fMatchingsOf s es).2]) ∧ FreshP w.heap.size w' q (fMatchingsOf s es).1.length (fMatchingsOf s es).1 ∧ Below w.heap.size w w' := by
  unfold fMatchingsOf
  by_cases g : IsG s es
  · rw [if_pos g]
    obtain ⟨b, off, rfl, rd⟩ := isG_sees g hr
    obtain ⟨N, rfl⟩ : ∃ N : Nat, s = N := ⟨_, (Int.toNat_of_nonneg (by have := g.1.1.1; omega)).symm⟩
    rw [Int.toNat_natCast]
    exact iMc_yes N (N / 2) b off n c es w hn rd g (by have := g.1.1.2.2.1; omega)
  · rw [if_neg g]
    exact (iMc_no s p n c es w hm hn hr g).mono fun e w' ⟨he, hb⟩ => ⟨none, 0, he, ⟨rfl, .inl rfl⟩, hb⟩


end Go.Proofs.Ythacpadadccioaa
